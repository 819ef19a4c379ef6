package need_test

import (
	"fmt"
	"math/rand"
	"slices"
	"strings"
	"testing"

	"floodgate/api"
	"floodgate/cells"
	"floodgate/lex"
	"floodgate/names"
	"floodgate/need"
	"floodgate/parse"
	"floodgate/types"
)

// same asks whether two programs come to the same picture, or both to none.
func same(t *testing.T, x, y api.Tree, in api.Inputs) {
	t.Helper()
	p, e := need.Run(x, in)
	q, f := need.Run(y, in)
	if !samePicture(p, q) || e != f {
		t.Fatal(shown(x), shown(y), in, p, q, e, f)
	}
}

// P7.8: programs with their stmts in another order.
func TestWhateverTheOrder(t *testing.T) {
	r := rand.New(rand.NewSource(8))
	other := 0
	for seed, x := range trees(8, 150, false) {
		in := inputs(r, x)
		for order := range int64(4) {
			y, ok := grown(seed, seed+order+1, false)
			if !ok {
				t.Fatal(shown(x), seed, order)
			}
			same(t, x, y, in)
			if shown(x) != shown(y) {
				other++
			}
		}
	}
	if other < 300 {
		t.Error(other)
	}
	a := "x: int = y + z; y: int = head(s); z: int = y * y; s: stream int = 3 :: t; t: stream int = x :: s"
	stmts := strings.Split(a, "; ")
	for range 60 {
		r.Shuffle(len(stmts), func(i, j int) { stmts[i], stmts[j] = stmts[j], stmts[i] })
		comes(t, main("int, stream int", strings.Join(stmts, "; ")+"; give x, s"), nothing(), 3, "12, [3, [12, [3, ..]]]")
	}
}

// P7.8: programs with other names, and with and without types of BindNodes.
func TestOtherNames(t *testing.T) {
	r := rand.New(rand.NewSource(9))
	renamed, plain, bare := 0, 0, 0
	for _, x := range trees(9, 120, false) {
		in := inputs(r, x)
		y := x
		for node, n := range x.Nodes {
			if n.Text == "main" || r.Intn(3) == 0 {
				continue
			}
			if z, e := names.Rename(y, node, fmt.Sprintf("%c%d", "qmz"[r.Intn(3)], r.Intn(30)+100)); e == api.OK {
				y = z
				renamed++
			}
		}
		same(t, x, y, in)
		if y, e := types.Plain(x); e == api.OK {
			same(t, x, y, in)
			plain++
		}
		if y, e := types.Bare(x); e == api.OK {
			same(t, x, y, in)
			bare++
		}
	}
	if renamed < 300 || plain < 60 || bare < 15 {
		t.Error(renamed, plain, bare)
	}
}

// put returns the program in which the expr that a name stands for is in the place of a NameNode, if that may be so.
func put(x api.Tree, of []int, use int) (string, bool) {
	parents := map[int]int{}
	for i, n := range x.Nodes {
		for _, kid := range n.Kids {
			parents[kid] = i
		}
	}
	bind := of[use]
	set := parents[bind]
	up := parents[use]
	for !slices.Contains([]uint8{api.BlockNode, api.LoopNode, api.SpanNode, api.OrNode}, x.Nodes[up].Kind) {
		up = parents[up]
	}
	if x.Nodes[use].Kind != api.NameNode || x.Nodes[bind].Kind != api.BindNode || x.Nodes[set].N != 1 || up != parents[set] || x.Nodes[up].Kind != api.BlockNode {
		return "", false
	}
	expr := x.Nodes[set].Kids[1]
	s, e := parse.Show(x, expr)
	first, _ := parse.First(x, expr)
	for _, n := range x.Nodes[first:expr] {
		if slices.Contains([]uint8{api.BindNode, api.InitNode, api.SpanNode}, n.Kind) && e == api.OK {
			from, _, _ := lex.Read(n.Text)
			to, _, _ := lex.Read(n.Text + "q")
			s, _, e = lex.Turn(s, from, to)
		}
	}
	y := clone(x, 0)
	y.Nodes[use].Text = "here"
	whole, f := parse.Print(y)
	return strings.Replace(whole, "here", "("+s+")", 1), e == api.OK && f == api.OK
}

// P7.9: a name, and its expr in its place.
func TestNameForExpr(t *testing.T) {
	r := rand.New(rand.NewSource(10))
	many, deep := 0, 0
	for _, x := range trees(10, 250, false) {
		in := inputs(r, x)
		n, _, _ := names.Resolve(x)
		p, e := need.Run(x, in)
		if e != api.OK {
			continue
		}
		before, e := cells.Show(p, 4)
		if e != api.OK {
			continue
		}
		for use := range x.Nodes {
			if n.Of[use] < 0 || r.Intn(2) == 0 {
				continue
			}
			s, ok := put(x, n.Of, use)
			if !ok {
				continue
			}
			after, _, e := need.Text(s, in, 4)
			if e != api.OK {
				continue
			}
			if after != before {
				t.Fatal(shown(x), s, in, before, after)
			}
			many++
			if len(s) > len(shown(x))+20 {
				deep++
			}
		}
	}
	if many < 200 || deep < 50 {
		t.Error(many, deep)
	}
	for _, x := range [][2]string{
		{"a = b * 2; b = 3; give a + b", "a = 3 * 2; b = 3; give (3 * 2) + 3"},
		{"s: stream int = b :: s; b = 3; give head(tail(s))", "s: stream int = 3 :: s; b = 3; give head(tail(3 :: s))"},
		{"a = loop(i := 0) while i < 3 do { next i = i + 1; } give(i); give a * a", "a = 1; give loop(i := 0) while i < 3 do { next i = i + 1; } give(i) * loop(j := 0) while j < 3 do { next j = j + 1; } give(j)"},
	} {
		a, _, e := need.Text(main("int", x[0]), nothing(), 3)
		b, _, f := need.Text(main("int", x[1]), nothing(), 3)
		if a != b || e != api.OK || f != api.OK {
			t.Error(x, a, b, e, f)
		}
	}
}

// P7.10: nothing is worked out more often than there are contexts of its item, and what nothing needs can be anything.
func TestByNeed(t *testing.T) {
	r := rand.New(rand.NewSource(11))
	worked, changed := 0, 0
	for _, x := range trees(11, 150, false) {
		in := inputs(r, x)
		times, e := need.Times(x, in)
		if e != api.OK {
			continue
		}
		o := oracleOf(x, in)
		contexts := map[int]int{} // by items
		for _, c := range o.scenes {
			for x.Nodes[c.home].Kind != api.DefItem {
				c = o.scenes[c.around]
			}
			contexts[c.home]++
		}
		item := 0
		for i, n := range times {
			if i > x.Items[item] {
				item++
			}
			if n > contexts[x.Items[item]] {
				t.Fatal(shown(x), in, i, n, contexts)
			}
			worked += n
		}
		unused, _ := need.Unused(x, in)
		for _, set := range unused {
			up := o.parents[set]
			if x.Nodes[up].Kind != api.LoopNode && x.Nodes[o.parents[up]].Kind != api.DefItem {
				continue
			}
			if y, ok := spun(x, set); ok {
				same(t, x, y, in)
				changed++
			}
		}
	}
	if worked < 1000 || changed < 100 {
		t.Error(worked, changed)
	}
}

// spun is a program in which a SetNode has an expr that never comes to an end.
func spun(x api.Tree, set int) (api.Tree, bool) {
	n := x.Nodes[set]
	kinds, _ := types.Of(x, n.Kids[n.N])
	expr, e := parse.Show(x, n.Kids[n.N])
	y := clone(x, 0)
	y.Nodes[n.Kids[0]].Text = "here"
	whole, f := parse.Print(y)
	before, after, ok := strings.Cut(whole, "here")
	binds, after, ok2 := strings.Cut(after, " = "+expr+";")
	if e != api.OK || f != api.OK || !ok || !ok2 {
		return x, false
	}
	z, _, e := parse.Parse(before + x.Nodes[n.Kids[0]].Text + binds + " = spin();" + after + " def spin() -> " + strings.Join(kinds, ", ") + " { give spin() }")
	if e == api.OK {
		_, e = types.Check(z)
	}
	return z, e == api.OK
}

// P7.11: more integers, or an input that is closed, make a greater picture.
func TestMoreInput(t *testing.T) {
	r := rand.New(rand.NewSource(12))
	greater, many := 0, 0
	for _, x := range trees(12, 400, false) {
		in := inputs(r, x)
		if len(in.L) == 0 {
			continue
		}
		k := r.Intn(len(in.L))
		in.Closed[k] = false
		l := slices.Clone(in.L[k])
		var before api.Picture
		for step := range 4 {
			if step == 3 {
				in.Closed[k] = true
			}
			p, e := need.Run(x, in)
			if e != api.OK {
				break
			}
			if is, e := cells.Below(before, p); step > 0 && (!is || e != api.OK) {
				t.Fatal(shown(x), in, before, p, e)
			}
			many++
			if step > 0 && !samePicture(before, p) {
				greater++
			}
			before = p
			l = append(l, r.Intn(9)-2)
			in.L[k] = slices.Clone(l)
		}
	}
	if many < 500 || greater < 100 {
		t.Error(many, greater)
	}
	s := "def main(a: stream int, b: stream int) -> stream int, int { give f(a, b), head(tail(a)) } def f(a: stream int, b: stream int) -> stream int { give if empty(a) { give b } else { give head(a) + head(b) :: f(tail(a), tail(b)) } }"
	for _, x := range []struct {
		a, b   []int
		closed []bool
		want   string
	}{
		{nil, nil, []bool{false, false}, "?, ?"},
		{[]int{1}, nil, []bool{false, false}, "[?, ?], ?"},
		{[]int{1}, []int{4}, []bool{false, false}, "[5, ?], ?"},
		{[]int{1, 3}, []int{4}, []bool{false, false}, "[5, [?, ?]], 3"},
		{[]int{1, 3}, []int{4, 5, 6}, []bool{false, false}, "[5, [8, ?]], 3"},
		{[]int{1, 3}, []int{4, 5, 6}, []bool{true, false}, "[5, [8, [6, ?]]], 3"},
		{[]int{1, 3}, []int{4, 5, 6}, []bool{true, true}, "[5, [8, [6, nil]]], 3"},
	} {
		comes(t, s, api.Inputs{L: [][]int{x.a, x.b}, Closed: x.closed}, 3, x.want)
	}
}

// P7.12: main is applied to its streams, and items to the values of arguments that they are called with.
func TestCallIsContext(t *testing.T) {
	r := rand.New(rand.NewSource(13))
	many := 0
	for _, x := range trees(13, 150, false) {
		in := inputs(r, x)
		m, l, _ := cells.Build(in.L, in.Closed)
		p, _ := cells.Draw(m, l)
		a, e := need.Run(x, in)
		b, f := need.Apply(x, slices.Index(x.Items, mainOf(x)), p)
		if !samePicture(a, b) || e != f {
			t.Fatal(shown(x), in, a, b, e, f)
		}
		for item, node := range x.Items {
			params, results, _ := types.Sign(x, item)
			name := x.Nodes[node].Text
			if name == "main" || len(params) == 0 || len(params) > 4 {
				continue
			}
			g := &grower{r: r, order: r, left: 9}
			args := g.each(nil, params, 2)
			rest, _ := names.Rename(x, mainOf(x), "other")
			s := shown(rest)
			asked, _, e := parse.Parse("def main() -> " + strings.Join(params, ", ") + " { give " + args + " } " + s)
			called, _, f := parse.Parse("def main() -> " + strings.Join(results, ", ") + " { give " + name + "(" + args + ") } " + s)
			if len(s) == 0 || e != api.OK || f != api.OK {
				continue
			}
			args1, e := need.Run(asked, nothing())
			got, f := need.Run(called, nothing())
			if e != api.OK || f != api.OK {
				continue
			}
			want, e := need.Apply(x, item, args1)
			u, _ := cells.Show(want, 4)
			v, _ := cells.Show(got, 4)
			if e != api.OK || u != v {
				t.Fatal(shown(called), want, got, e)
			}
			many++
		}
	}
	if many < 50 {
		t.Error(many)
	}
}

// P7.13: where no structures are made, and all inputs are closed, there are no holes.
func TestNoHoles(t *testing.T) {
	r := rand.New(rand.NewSource(14))
	faults := 0
	for _, x := range trees(14, 400, true) {
		in := inputs(r, x)
		for k := range in.Closed {
			in.Closed[k] = true
		}
		p, e := need.Run(x, in)
		if e != api.OK && e != api.ErrLimit {
			t.Fatal(shown(x), e)
		}
		for _, v := range slices.Concat(append(p.Cells, p.Values)...) {
			if v == hole() {
				t.Fatal(shown(x), in, p)
			}
			if v.Kind == api.VBad {
				faults++
			}
		}
		knots, _ := need.Knots(x, in)
		if len(knots) > 0 {
			t.Fatal(shown(x), in, knots)
		}
	}
	if faults < 20 {
		t.Error(faults)
	}
}
