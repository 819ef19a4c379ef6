package need_test

import (
	"slices"
	"strings"
	"testing"

	"floodgate/api"
	"floodgate/cells"
	"floodgate/need"
)

// errorsOf are the errors of all functions with a tree and inputs, and other arguments that are wrong; what is told together with an error must be nothing.
func errorsOf(t *testing.T, x api.Tree, in api.Inputs) []api.Errno {
	t.Helper()
	p, e := need.Run(x, in)
	times, e1 := need.Times(x, in)
	contexts, structs, e2 := need.Count(x, in)
	knots, e3 := need.Knots(x, in)
	l, end, e4 := need.Result(x, in, -1, -1)
	unused, e5 := need.Unused(x, in)
	all := []api.Errno{e, e1, e2, e3, e4, e5}
	if e != api.OK && !isNothing(p) || e1 != api.OK && len(times) > 0 || e2 != api.OK && contexts+structs > 0 || e3 != api.OK && len(knots) > 0 || e5 != api.OK && len(unused) > 0 {
		t.Error("something was told together with an error", shown(x), in)
	}
	if len(l) > 0 || end != hole() {
		t.Error("Result told something", shown(x), l, end)
	}
	return all
}

// wrong asks whether all functions with inputs have an error, and Text, at the place of the ^, or at 0.
func wrong(t *testing.T, s string, in api.Inputs, want api.Errno) {
	t.Helper()
	x, nodes := marked(t, s)
	if got := errorsOf(t, x, in); !slices.Equal(got, slices.Repeat([]api.Errno{want}, 6)) {
		t.Error(s, in, got, want)
	}
	at := 0
	if len(nodes) > 0 {
		at = x.Nodes[nodes[0]].At
	}
	if text, place, e := need.Text(strings.ReplaceAll(s, "^", ""), in, -1); text != "" || place != at || e != want {
		t.Error(s, in, text, place, at, e)
	}
}

// P7.1, P7.3 to P7.7: trees that have no types, parts that are not right, or no main, whatever the inputs.
func TestTreeErrors(t *testing.T) {
	for _, in := range []api.Inputs{nothing(), closed(1), closed(make([]int, 41)...), closed(api.MaxNumber + 1)} {
		for _, x := range []struct {
			s string
			e api.Errno
		}{
			{"def f() -> int { give ^x }", api.ErrName},
			{main("int", "give ^f(1)"), api.ErrName},
			{main("int", "a = 1; ^a = 2; give a"), api.ErrTwice},
			{"def f() -> int { give 1 } ^def f() -> int { give 2 }", api.ErrTwice},
			{main("int", "a ^= a; give a"), api.ErrState},
			{" ^def main() -> int { give true }", api.ErrType},
			{main("int", "give 1 ^+ true"), api.ErrType},
			{main("[int]", "give ^array(1) { [0] = 1 }"), api.ErrFalse},
			{main("int", "give 1") + " def f() -> [int] { give ^array(2, 2) { [i in 0..# - 1] = 1; [1] = 2 } }", api.ErrFalse},
			// No main: this comes before parts that are not right.
			{"", api.ErrNone},
			{"  def f() -> int { give 1 }", api.ErrNone},
			{"  def f() -> [int] { give array(1) { [0] = 1 } }", api.ErrNone},
			{"  def f() -> int { give ^head(1) }", api.ErrType},
			// A main whose params are other ones, before parts that are not right.
			{" ^def main(n: int) -> int { give n }", api.ErrType},
			{" def f() -> [int] { give array(1) { [0] = 1 } } ^def main(s: stream bool) -> int { give 1 }", api.ErrType},
			{" ^def main(a: stream int, b: stream int, c: stream int, d: stream int) -> int { give 1 }", api.ErrType},
		} {
			wrong(t, x.s, in, x.e)
		}
	}
}

// P7.1, P7.3 to P7.7: trees that have not their form, or their limits.
func TestFormErrors(t *testing.T) {
	good := tree(t, main("int", "give 1"))
	for _, x := range []struct {
		change func(x *api.Tree)
		e      api.Errno
	}{
		{func(x *api.Tree) { x.Nodes[0].Kind = 99 }, api.ErrForm},
		{func(x *api.Tree) { x.Nodes[1].N = -1 }, api.ErrForm},
		{func(x *api.Tree) { x.Nodes[2].Kids = []int{5} }, api.ErrForm},
		{func(x *api.Tree) { x.Nodes[2].Kids = nil }, api.ErrForm},
		{func(x *api.Tree) { x.Items = nil }, api.ErrForm},
		{func(x *api.Tree) { x.Items = []int{3, 3} }, api.ErrForm},
		{func(x *api.Tree) { x.Items = []int{1 << 40} }, api.ErrForm},
		{func(x *api.Tree) { x.Nodes = slices.Repeat(x.Nodes, 200) }, api.ErrLimit},
		{func(x *api.Tree) { x.Items = make([]int, 21) }, api.ErrLimit},
	} {
		y := clone(good, 0)
		x.change(&y)
		if got := errorsOf(t, y, closed(api.MaxNumber+1)); !slices.Equal(got, slices.Repeat([]api.Errno{x.e}, 6)) {
			t.Error(y, got, x.e)
		}
	}
	for s, want := range map[string]struct {
		at int
		e  api.Errno
	}{
		"def main( -> int":               {10, api.ErrForm},
		"def main() -> int { give 1; }":  {26, api.ErrForm},
		"def main() -> int { give 1 } ?": {29, api.ErrForm},
		"def main() -> int { give 1":     {26, api.ErrForm},
		"x":                              {0, api.ErrForm},
		"def main() -> int, int, int, int, int { give 1 }": {0, api.ErrRange},
	} {
		if text, at, e := need.Text(s, nothing(), -1); text != "" || at != want.at || e != want.e {
			t.Error(s, text, at, e)
		}
	}
	long := make([]byte, api.MaxText+1)
	for i := range long {
		long[i] = ' '
	}
	if text, at, e := need.Text(string(long), nothing(), 1); text != "" || at != 0 || e != api.ErrLimit {
		t.Error(text, at, e)
	}
	if text, at, e := need.Text(string(long[:api.MaxText]), nothing(), 1); text != "" || at != 0 || e != api.ErrNone {
		t.Error(text, at, e)
	}
}

// P7.1, P7.3 to P7.7: inputs that are too few or too many, too long, no integers, in this order, before what the program would do.
func TestInputErrors(t *testing.T) {
	spin := " def f(n: int) -> int { give f(n) }"
	two := "def main(a: stream int, b: stream int) -> int { give f(1) }" + spin
	many := make([]int, 41)
	odd := []int{0, api.MaxNumber + 1}
	lists := func(l ...[]int) [][]int { return l }
	for _, x := range []struct {
		s  string
		in api.Inputs
		e  api.Errno
	}{
		{main("int", "give f(1)") + spin, nothing(), api.ErrLimit},
		{main("int", "give f(1)") + spin, closed(), api.ErrArg},
		{main("int", "give f(1)") + spin, api.Inputs{L: lists(odd)}, api.ErrArg},
		{main("int", "give f(1)") + spin, api.Inputs{Closed: []bool{true}}, api.ErrArg},
		{two, nothing(), api.ErrArg},
		{two, api.Inputs{L: lists(many), Closed: []bool{true}}, api.ErrArg},
		{two, api.Inputs{L: lists(many, odd), Closed: []bool{true}}, api.ErrArg},
		{two, api.Inputs{L: lists(many), Closed: []bool{true, true}}, api.ErrArg},
		{two, api.Inputs{L: lists(many, odd, odd), Closed: []bool{true, true}}, api.ErrArg},
		{two, api.Inputs{L: lists(many, odd), Closed: []bool{true, true, true}}, api.ErrArg},
		{two, api.Inputs{L: lists(odd, many), Closed: []bool{true, false}}, api.ErrLimit},
		{two, api.Inputs{L: lists(many, nil), Closed: []bool{true, false}}, api.ErrLimit},
		{two, api.Inputs{L: lists(odd, many[1:]), Closed: []bool{true, false}}, api.ErrRange},
		{two, api.Inputs{L: lists(nil, []int{1, -api.MaxNumber - 1}), Closed: []bool{true, false}}, api.ErrRange},
		{two, api.Inputs{L: lists([]int{1 << 62}, []int{-1 << 63}), Closed: []bool{true, false}}, api.ErrRange},
		{two, api.Inputs{L: lists(many[1:], nil), Closed: []bool{true, false}}, api.ErrLimit},
		{on("int", "give 1"), closed(append(many, 1<<40)...), api.ErrLimit},
		{on("int", "give 1"), closed(append(make([]int, 39), 1<<40)...), api.ErrRange},
	} {
		wrong(t, x.s, x.in, x.e)
	}
	ends := []int{-api.MaxNumber, api.MaxNumber}
	if l, end, e := need.Result(tree(t, on("stream int", "give s")), closed(ends...), 0, 400); !slices.Equal(l, ends) || end != none() || e != api.OK {
		t.Error(l, end, e)
	}
}

// P7.6: integers of a value, as far as asked for, and what is left; no such value, and too many or too few asked for.
func TestResult(t *testing.T) {
	x := tree(t, "def main(s: stream int) -> stream int, stream int, int, stream int { r: stream int = 8 :: 9 :: r; give s, r, 7, 1 :: 2 / 0 :: nil(int) }")
	p, e := need.Run(x, open(4, 5, 6))
	if e != api.OK {
		t.Fatal(e)
	}
	for n, v := range p.Values {
		whole, last, _ := cells.Stream(p, n)
		for most := -1; most <= 401; most++ {
			l, end, e := need.Result(x, open(4, 5, 6), n, most)
			if most < 0 || most > 400 {
				if len(l) > 0 || end != hole() || e != api.ErrRange {
					t.Error(n, most, l, end, e)
				}
				continue
			}
			rest := v
			for range min(most, len(whole)) {
				rest = p.Cells[rest.N][1]
			}
			if most >= len(whole) && rest != last {
				t.Error(n, most, rest, last)
			}
			if !slices.Equal(l, whole[:min(most, len(whole))]) || end != rest || e != api.OK {
				t.Error(n, most, l, end, e)
			}
			if most == 5 { // what is between here and the end is as before
				most = 397
			}
		}
	}
	for _, x2 := range []struct {
		n, most int
		l       []int
		end     api.Value
		e       api.Errno
	}{
		{0, 0, nil, ref(0), api.OK}, {0, 1, []int{4}, p.Cells[0][1], api.OK}, {0, 3, []int{4, 5, 6}, hole(), api.OK}, {0, 4, []int{4, 5, 6}, hole(), api.OK}, {0, 400, []int{4, 5, 6}, hole(), api.OK},
		{1, 3, []int{8, 9, 8}, p.Cells[1][1], api.OK}, {1, 400, slices.Repeat([]int{8, 9}, 200), ref(1), api.OK}, {1, 399, slices.Repeat([]int{8, 9}, 200)[:399], p.Cells[1][1], api.OK},
		{2, 0, nil, num(7), api.OK}, {2, 400, nil, num(7), api.OK}, {3, 9, []int{1}, p.Cells[2][1], api.OK},
		{4, 1, nil, hole(), api.ErrRange}, {-1, 1, nil, hole(), api.ErrRange}, {1 << 62, 1, nil, hole(), api.ErrRange}, {0, 1 << 62, nil, hole(), api.ErrRange}, {0, -1 << 63, nil, hole(), api.ErrRange}, {4, 401, nil, hole(), api.ErrRange},
	} {
		if l, end, e := need.Result(x, open(4, 5, 6), x2.n, x2.most); !slices.Equal(l, x2.l) || end != x2.end || e != x2.e {
			t.Error(x2, l, end, e)
		}
	}
}

// P7.7: depths that there are not, and a text that is too long, at 0.
func TestTextErrors(t *testing.T) {
	s := " " + main("[[int]]", "give array(100) { [i in 0..# - 1] = array(26) { [j in 0..# - 1] = 1 } }")
	wide := " " + main("[int]", "give array(100) { [i in 0..# - 1] = -1000000000 }")
	for _, x := range []struct {
		s    string
		deep int
		e    api.Errno
		many int
	}{
		{wide, 1, api.OK, 1300}, {wide, 0, api.OK, 2}, {wide, 12, api.OK, 1300}, {wide, 13, api.ErrRange, 0}, {wide, -1, api.ErrRange, 0}, {wide, 1 << 62, api.ErrRange, 0},
		{" " + main("[int], [int]", "a = array(100) { [i in 0..# - 1] = -1000000000 }; give a, a"), 1, api.ErrLimit, 0},
		{" " + main("[int], [int]", "a = array(100) { [i in 0..# - 1] = -1000000000 }; give a, a"), 0, api.OK, 6},
		{s, 2, api.ErrLimit, 0},
	} {
		if text, at, e := need.Text(x.s, nothing(), x.deep); len(text) != x.many || at != 0 || e != x.e {
			t.Error(x.s, x.deep, len(text), at, e)
		}
	}
}
