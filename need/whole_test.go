package need_test

import (
	"fmt"
	"math/rand"
	"slices"
	"testing"

	"floodgate/api"
	"floodgate/cells"
	"floodgate/need"
)

// arguments are what all functions are asked with.
type arguments struct {
	s        string
	x        api.Tree
	in       api.Inputs
	p        api.Picture
	n, other int
}

// anyNumber is a number that is often a small one.
func anyNumber(r *rand.Rand) int {
	return []int{r.Intn(4), r.Intn(4), r.Intn(16) - 2, int(r.Uint64())}[min(r.Intn(20), 3)]
}

// spoil changes something of arguments, so that they may not be valid.
func (a *arguments) spoil(r *rand.Rand) {
	nodes := a.x.Nodes
	n := &nodes[r.Intn(len(nodes))]
	switch r.Intn(12) {
	case 0:
		n.Kind = uint8(r.Intn(70))
	case 1:
		n.N = anyNumber(r)
	case 2:
		n.Text = nodes[r.Intn(len(nodes))].Text
	case 3:
		if len(n.Kids) > 0 {
			n.Kids[r.Intn(len(n.Kids))] = anyNumber(r)
		}
	case 4:
		n.Kids = append(n.Kids, r.Intn(len(nodes)))
	case 5:
		a.x.Items = append(a.x.Items, anyNumber(r))
	case 6:
		a.x.Nodes = nodes[:r.Intn(len(nodes))]
	case 7:
		a.in.L = append(a.in.L, []int{anyNumber(r)})
	case 8:
		a.in.Closed = append(a.in.Closed, true)
	case 9:
		a.p.Cells = append(a.p.Cells, values(num(anyNumber(r)), ref(anyNumber(r))))
	case 10:
		a.p.Values = append(a.p.Values, api.Value{Kind: uint8(r.Intn(9)), N: anyNumber(r)})
	case 11:
		a.s = a.s[:r.Intn(len(a.s)+1)]
	}
}

// anyArguments are arguments of which most are valid.
func anyArguments(r *rand.Rand, x api.Tree) arguments {
	a := arguments{s: shown(x), x: clone(x, 0), in: inputs(r, x), n: anyNumber(r), other: anyNumber(r)}
	m, l, _ := cells.Build([][]int{{1, 2}, {3}, {}}, []bool{true, false, false})
	for range x.Nodes[x.Items[min(max(a.n, 0), len(x.Items)-1)]].N {
		a.p.Values = append(a.p.Values, append(l, allValues()[:9]...)[r.Intn(12)])
	}
	a.p, _ = cells.Draw(m, a.p.Values)
	if r.Intn(3) == 0 {
		a.spoil(r)
	}
	return a
}

// called tells what all functions answer.
func called(a arguments) string {
	var s []any
	put := func(x ...any) { s = append(s, x...) }
	p, e := need.Run(a.x, a.in)
	put(p, e)
	p, e = need.Apply(a.x, a.n, a.p)
	put(p, e)
	times, e := need.Times(a.x, a.in)
	put(len(times), times, e)
	contexts, structs, e := need.Count(a.x, a.in)
	put(contexts, structs, e)
	knots, e := need.Knots(a.x, a.in)
	put(len(knots), knots, e)
	l, end, e := need.Result(a.x, a.in, a.n, a.other)
	put(len(l), l, end, e)
	text, at, e := need.Text(a.s, a.in, a.other)
	put(text, at, e)
	unused, e := need.Unused(a.x, a.in)
	put(len(unused), unused, e)
	return fmt.Sprint(s...)
}

// clone copies arguments so that all of their lists have room behind their ends.
func (a arguments) clone() arguments {
	odd := api.Value{Kind: 99, N: -77}
	a.x = clone(a.x, 3)
	a.in = api.Inputs{L: roomy(a.in.L, []int{-77}, 3), Closed: roomy(a.in.Closed, true, 3)}
	for i := range a.in.L {
		a.in.L[i] = roomy(a.in.L[i], -77, 3)
	}
	a.p = api.Picture{Values: roomy(a.p.Values, odd, 3), Cells: roomy(a.p.Cells, values(odd), 3)}
	for i := range a.p.Cells {
		a.p.Cells[i] = roomy(a.p.Cells[i], odd, 3)
	}
	return a
}

// room tells roomy arguments with what lies behind the ends of their lists.
func (a arguments) room() string {
	s := []any{a.x.Nodes[:len(a.x.Nodes)+3], a.x.Items[:len(a.x.Items)+3], a.in.L[:len(a.in.L)+3], a.in.Closed[:len(a.in.Closed)+3], a.p.Values[:len(a.p.Values)+3], a.p.Cells[:len(a.p.Cells)+3]}
	for _, n := range a.x.Nodes {
		s = append(s, n.Kids[:len(n.Kids)+3])
	}
	for _, l := range a.in.L {
		s = append(s, l[:len(l)+3])
	}
	for _, l := range a.p.Cells {
		s = append(s, l[:len(l)+3])
	}
	return fmt.Sprint(s...)
}

// P1, P2, R4, R8: for any arguments there is an answer, it is the same again, and no argument is changed, nor what lies behind the end of a list.
func TestAnyArguments(t *testing.T) {
	r := rand.New(rand.NewSource(1))
	for _, x := range trees(20, 150, false) {
		a := anyArguments(r, x).clone()
		before := a.room()
		first := called(a)
		if after := a.room(); after != before {
			t.Fatalf("%s\n%s", before, after)
		}
		if again := called(a); again != first {
			t.Fatalf("%s\n%s\n%s", before, first, again)
		}
		if other := called(a.clone()); other != first {
			t.Fatalf("%s\n%s\n%s", before, first, other)
		}
	}
}

// P2, R4: results share no memory with arguments, nor with each other: what is written into them is seen nowhere.
func TestNewMemory(t *testing.T) {
	x := tree(t, "def main(s: stream int, r: stream int) -> stream int, [int], stream stream int, int { a: [int] = array(3) { [i in 0..# - 1] = a[i] }; b = 1; u: stream stream int = r :: s2 :: u; s2: stream int = c :: s2; c = head(s2); give s, a, u, c }")
	in := api.Inputs{L: [][]int{{1, 2}, {3}}, Closed: []bool{true, false}}
	m, l, _ := cells.Build(in.L, in.Closed)
	p, _ := cells.Draw(m, l)
	a := arguments{x: x, in: in, p: p, other: 2}.clone()
	whole := func() string { return a.room() + called(a) }
	before := whole()
	ruin := func(l []int) {
		for i := range l[:cap(l)] {
			l[:cap(l)][i] = -9
		}
	}
	spoil := func(p api.Picture) {
		odd := api.Value{Kind: 99, N: -9}
		for _, l := range append(slices.Clone(p.Cells), p.Values) {
			kept := fmt.Sprint(p)
			for i := range l[len(l):cap(l)] {
				l[len(l):cap(l)][i] = odd
			}
			if fmt.Sprint(p) != kept {
				t.Error("lists of a picture share memory", p)
			}
			for i := range l {
				l[i] = odd
			}
		}
		for i := range p.Cells[:cap(p.Cells)] {
			p.Cells[:cap(p.Cells)][i] = values(odd)
		}
	}
	for range 2 {
		p, _ := need.Run(a.x, a.in)
		spoil(p)
		p, _ = need.Apply(a.x, 0, a.p)
		spoil(p)
		for _, asked := range []func(api.Tree, api.Inputs) ([]int, api.Errno){need.Times, need.Knots, need.Unused} {
			l, e := asked(a.x, a.in)
			if len(l) == 0 || e != api.OK {
				t.Error(l, e)
			}
			ruin(l)
		}
		l, _, e := need.Result(a.x, a.in, 0, 1)
		if len(l) != 1 || e != api.OK {
			t.Error(l, e)
		}
		ruin(l)
		if after := whole(); after != before {
			t.Fatalf("%s\n%s", before, after)
		}
	}
}

// R3: nil and empty lists are the same.
func TestNilAndEmpty(t *testing.T) {
	for _, s := range []string{"def main() -> int { give 1 }", "def main(s: stream int) -> bool { give empty(s) }"} {
		x := tree(t, s)
		a := arguments{s: s, x: x, in: api.Inputs{L: make([][]int, x.Nodes[mainOf(x)].N), Closed: make([]bool, x.Nodes[mainOf(x)].N)}}
		b := arguments{s: s, x: clone(x, 0), p: api.Picture{Values: values(), Cells: [][]api.Value{}}}
		b.in = api.Inputs{L: [][]int{}, Closed: []bool{}}
		for i := range a.in.L {
			b.in.L, b.in.Closed = append(b.in.L, []int{}), append(b.in.Closed, a.in.Closed[i])
		}
		for i := range b.x.Nodes {
			if len(b.x.Nodes[i].Kids) == 0 {
				b.x.Nodes[i].Kids = []int{}
			}
		}
		if u, v := called(a), called(b); u != v {
			t.Error(u, v)
		}
	}
	x := tree(t, "def f(a: [int]) -> int, [int] { give size(a), a }")
	u, e := need.Apply(x, 0, picture(values(ref(0)), nil))
	v, f := need.Apply(x, 0, picture(values(ref(0)), values()))
	if !samePicture(u, v) || len(u.Cells) != 1 || e != api.OK || f != api.OK {
		t.Error(u, v, e, f)
	}
}
