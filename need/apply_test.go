package need_test

import (
	"fmt"
	"slices"
	"strings"
	"testing"

	"floodgate/api"
	"floodgate/cells"
	"floodgate/need"
)

// allValues are values of all kinds, both ends of each among them.
func allValues() []api.Value {
	return values(hole(), num(-api.MaxNumber), num(-1), num(0), num(1), num(2), num(api.MaxNumber), truth(0), truth(1), none(), ref(0), bad(1), bad(2), bad(3), bad(4), bad(5))
}

// pair is a picture of values, in which ref(0) is a structure of two cells.
func pair(v ...api.Value) api.Picture {
	p := picture(v)
	if slices.Contains(v, ref(0)) {
		p.Cells = [][]api.Value{{num(7), truth(1)}}
	}
	return p
}

// applied is what the first item of a text gives for a picture.
func applied(t *testing.T, s string, p api.Picture) api.Value {
	t.Helper()
	q, e := need.Apply(tree(t, s), 0, p)
	if e != api.OK || len(q.Values) != 1 {
		t.Fatal(s, p, q, e)
	}
	return q.Values[0]
}

// P7.1, P7.2: operations on values of all kinds, in both places.
func TestOperations(t *testing.T) {
	for sign, names := range map[string]string{"+": "add", "-": "sub", "*": "mul", "/": "div", "%": "mod", "==": "eq", "!=": "eq not", "<": "lt", "<=": "le", ">": "le not", ">=": "lt not"} {
		result := "int"
		if strings.ContainsAny(sign, "=<>!") {
			result = "bool"
		}
		s := "def f(a: int, b: int) -> " + result + " { give a " + sign + " b }"
		for _, a := range allValues() {
			for _, b := range allValues() {
				want := values(a, b)
				for _, name := range strings.Fields(names) {
					v, e := cells.Prim(name, want)
					if e != api.OK {
						t.Fatal(name, want, e)
					}
					want = values(v)
				}
				if got := applied(t, s, pair(a, b)); got != want[0] {
					t.Error(s, a, b, got, want)
				}
			}
		}
	}
	for _, v := range allValues() {
		for s, name := range map[string]string{"def f(a: int) -> int { give -a }": "neg", "def f(a: bool) -> bool { give not a }": "not"} {
			want, _ := cells.Prim(name, values(v))
			if got := applied(t, s, pair(v)); got != want {
				t.Error(s, v, got, want)
			}
		}
	}
}

// P7.1, P7.2: what asks structures, with values of all kinds.
func TestAsked(t *testing.T) {
	for _, x := range []struct {
		s                     string
		zero, some, none, ref api.Value // of a hole, of a number, of nil, of a structure of two cells
	}{
		{"def f(s: stream int) -> int { give head(s) }", hole(), bad(api.BadKind), bad(api.BadIndex), num(7)},
		{"def f(s: stream bool) -> stream bool { give tail(s) }", hole(), bad(api.BadKind), bad(api.BadIndex), truth(1)},
		{"def f(s: stream int) -> bool { give empty(s) }", hole(), bad(api.BadKind), truth(1), truth(0)},
		{"def f(s: [int]) -> int { give size(s) }", hole(), bad(api.BadKind), bad(api.BadKind), num(2)},
		{"def f(s: [int]) -> int { give s[1] }", hole(), bad(api.BadKind), bad(api.BadIndex), truth(1)},
		{"def f(s: [int]) -> int { give s[2] }", hole(), bad(api.BadKind), bad(api.BadIndex), bad(api.BadIndex)},
	} {
		for _, v := range allValues() {
			want := x.some
			switch v.Kind {
			case api.VHole:
				want = x.zero
			case api.VNil:
				want = x.none
			case api.VRef:
				want = x.ref
			case api.VBad:
				want = v
			}
			if got := applied(t, x.s, pair(v)); got != want {
				t.Error(x.s, v, got, want)
			}
		}
	}
	s := "def f(a: [int], i: int) -> int { give a[i] }"
	for _, a := range allValues() {
		for _, i := range allValues() {
			p := pair(a, i)
			want := hole()
			if a != hole() && i != hole() {
				m, _ := cells.Memory(p)
				_, v, _, e := cells.Do(m, api.CellOp{Kind: api.CellRead, V: a, Index: i})
				if e != api.OK {
					t.Fatal(a, i, e)
				}
				want = v
			}
			if got := applied(t, s, p); got != want {
				t.Error(a, i, got, want)
			}
		}
	}
	for cells, want := range map[int]api.Value{0: bad(api.BadIndex), 1: bad(api.BadIndex), 2: hole(), 100: hole()} {
		p := picture(values(ref(0)), make([]api.Value, cells))
		if got := applied(t, "def f(s: stream int) -> stream int { give tail(s) }", p); got != want {
			t.Error(cells, got, want)
		}
		if got := applied(t, "def f(s: [int]) -> int { give size(s) }", p); got != num(cells) {
			t.Error(cells, got)
		}
	}
}

// P7.1, P7.2: sizes of arrays of all kinds, around the least one and the greatest one.
func TestSizes(t *testing.T) {
	s := "def f(n: int) -> int { give size(array(n, 2) { [0] = 1; [1] = 2; [i in 2..# - 1] = 3 }) }"
	for _, n := range append(allValues(), num(3), num(99), num(100), num(101), num(102)) {
		want := bad(api.BadKind)
		switch {
		case n == hole() || n.Kind == api.VBad:
			want = n
		case n.Kind == api.VInt && n.N >= 2 && n.N <= 100:
			want = n
		case n.Kind == api.VInt:
			want = bad(api.BadSize)
		}
		if got := applied(t, s, pair(n)); got != want {
			t.Error(n, got, want)
		}
	}
}

// P7.2: pictures with structures, which are told again if they can be reached, with their holes and knots.
func TestApply(t *testing.T) {
	x := tree(t, "def f(s: stream int, n: int) -> stream int, stream int, int { give tail(s), n :: s, n } def main() -> int { give 5 } def g(a: [int], b: [int]) -> int, [int] { give a[0] + size(b), b }")
	ring := picture(values(ref(0), num(3)), values(num(1), ref(1)), values(num(2), ref(0)))
	for _, x2 := range []struct {
		item    int
		p, want api.Picture
	}{
		{0, ring, picture(values(ref(0), ref(1), num(3)), values(num(2), ref(2)), values(num(3), ref(2)), values(num(1), ref(0)))},
		{0, picture(values(none(), hole())), picture(values(bad(api.BadIndex), ref(0), hole()), values(hole(), none()))},
		{0, picture(values(hole(), truth(1))), picture(values(hole(), ref(0), truth(1)), values(truth(1), hole()))},
		{0, picture(values(ref(0), ref(0)), values(hole(), ref(1)), nil), picture(values(ref(0), ref(1), ref(2)), nil, values(ref(2), ref(2)), values(hole(), ref(0)))},
		{1, picture(nil), picture(values(num(5)))},
		{2, picture(values(ref(0), ref(1)), values(num(4), hole()), values(hole(), ref(0))), picture(values(num(6), ref(0)), values(hole(), ref(1)), values(num(4), hole()))},
		{2, picture(values(ref(0), ref(0)), values(num(4))), picture(values(num(5), ref(0)), values(num(4)))},
		{2, picture(values(bad(2), num(1))), picture(values(bad(2), num(1)))},
	} {
		got, e := need.Apply(x, x2.item, x2.p)
		if !samePicture(got, x2.want) || e != api.OK {
			t.Error(x2.item, x2.p, got, x2.want, e)
		}
		m, _ := cells.Memory(x2.p)
		if o := work(x, x.Items[x2.item], m, x2.p.Values); !samePicture(o.picture, got) {
			t.Error(x2.item, x2.p, got, o.picture)
		}
	}
}

// P7.2: the errors, in their order.
func TestApplyErrors(t *testing.T) {
	good := "def f(n: int) -> int { give n }"
	wide := picture(slices.Repeat(values(num(1)), 101))
	for i, x := range []struct {
		s    string
		item int
		p    api.Picture
		e    api.Errno
	}{
		{good, 0, picture(values(num(1))), api.OK},
		{good, 0, picture(values(num(1), num(1))), api.ErrArg},
		{good, 0, picture(nil), api.ErrArg},
		{good, 0, picture(values(num(api.MaxNumber + 1))), api.ErrForm},
		{good, 0, picture(values(num(1), bad(0))), api.ErrForm},
		{good, 0, picture(values(ref(0))), api.ErrForm},
		{good, 0, picture(values(num(1)), nil), api.ErrForm},
		{good, 0, picture(values(ref(0)), make([]api.Value, 101)), api.ErrForm},
		{good, 0, wide, api.ErrForm},
		{good, 1, wide, api.ErrNone},
		{good, -1, wide, api.ErrNone},
		{good, 1 << 62, picture(nil), api.ErrNone},
		{good, -1 << 63, picture(nil), api.ErrNone},
		{"", 0, picture(nil), api.ErrNone},
		{"def f() -> int { give x }", 7, wide, api.ErrName},
		{"def f() -> int { x = x; give x }", 7, wide, api.ErrState},
		{"def f(a: int, a: int) -> int { give 1 }", 7, wide, api.ErrTwice},
		{"def f() -> int { give true }", 7, wide, api.ErrType},
		{"def f() -> [int] { give array(1) { [0] = 1 } }", 7, wide, api.ErrFalse},
		{"def f() -> [int] { give array(1) { [0] = true } }", 7, wide, api.ErrType},
		{"def main(n: int) -> int { give n }", 0, picture(values(num(1))), api.OK},
		{"def f(n: int) -> int { give f(n) }", 0, picture(values(num(1))), api.ErrLimit},
		{"def f(n: int) -> int { give f(n) }", 0, picture(nil), api.ErrArg},
	} {
		p, e := need.Apply(tree(t, x.s), x.item, x.p)
		if e != x.e || e != api.OK && !isNothing(p) {
			t.Error(i, fmt.Sprint(p), e)
		}
	}
	odd := tree(t, good)
	odd.Nodes[0].N = 1
	if p, e := need.Apply(odd, 7, wide); e != api.ErrForm || !isNothing(p) {
		t.Error(p, e)
	}
	if p, e := need.Apply(api.Tree{Nodes: make([]api.TreeNode, 701)}, 7, wide); e != api.ErrLimit || !isNothing(p) {
		t.Error(p, e)
	}
}
