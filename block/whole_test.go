package block_test

import (
	"fmt"
	"math/rand"
	"slices"
	"strings"
	"testing"

	"floodgate/api"
	"floodgate/block"
)

// arguments are what all functions are asked with.
type arguments struct {
	l      []api.Block
	n      api.Node
	number int
	s      string
}

// anyArguments are arguments of which most are valid.
func anyArguments(r *rand.Rand) arguments {
	a := arguments{l: noisy(r, 10)}
	if r.Intn(2) == 0 {
		a.l = grown(r, 15)
	}
	a.s = wantText(a.l)
	for range []int{0, 0, 1, 2, 5}[r.Intn(5)] {
		a.l = spoil(r, a.l)
	}
	a.number = []int{r.Intn(len(a.l) + 1), r.Intn(len(a.l) + 1), r.Intn(5) - 2, int(r.Uint64())}[min(r.Intn(20), 3)]
	a.n = api.Node{Op: uint8(r.Intn(17)), Name: []string{"main", "f", "g.0", "x", "add", ""}[r.Intn(6)], N: r.Intn(5), Ins: wide(param(0), r.Intn(4))}
	if r.Intn(2) == 0 {
		at, part := r.Intn(len(a.s)), []string{"", " ", "\n", "0", "n", "p", ".", "block ", "  exit\n"}[r.Intn(9)]
		a.s = a.s[:at] + part + a.s[min(at+r.Intn(3), len(a.s)):]
	}
	return a
}

// called tells what all functions answer.
func called(a arguments) string {
	var s []any
	put := func(x ...any) { s = append(s, x...) }
	put(block.Check(a.l), block.Outs(a.l, a.n))
	inputs, e := block.Inputs(a.l)
	put(inputs, e)
	guards, e := block.Guards(a.l, a.number)
	put(len(guards), guards, e)
	at, e := block.Flow(a.l)
	put(at, e)
	uses, e := block.Uses(a.l, a.number)
	put(len(uses), uses, e)
	calls, e := block.Calls(a.l, a.number)
	put(len(calls), calls, e)
	needs, e := block.Needs(a.l, a.number)
	put(len(needs), needs, e)
	slim, e := block.Slim(a.l)
	put(len(slim), shown(slim), e)
	text, e := block.Text(a.l)
	put(text, e)
	l, e := block.Parse(a.s)
	put(len(l), shown(l), e)
	nodes, ins, e := block.Size(a.l)
	put(nodes, ins, e)
	return fmt.Sprintf("%q", s)
}

// roomy copies a list; it has room behind its end, with something in it.
func roomy[T any](l []T, other T) []T {
	return append(slices.Clone(l), other, other, other)[:len(l)]
}

func strange() api.From { return api.From{Node: -77, Out: 99} }

// clone copies arguments so that all of their lists are roomy.
func (a arguments) clone() arguments {
	node := api.Node{Op: 99, Name: "strange", N: -77}
	a.l = roomy(a.l, api.Block{Name: "strange", Params: -77})
	for i := range a.l {
		b := &a.l[i]
		b.Nexts, b.Exits, b.Nodes = roomy(b.Nexts, strange()), roomy(b.Exits, strange()), roomy(b.Nodes, node)
		for k := range b.Nodes {
			b.Nodes[k].Ins = roomy(b.Nodes[k].Ins, strange())
		}
	}
	a.n.Ins = roomy(a.n.Ins, strange())
	return a
}

// room tells roomy arguments with what lies behind the ends of their lists.
func (a arguments) room() string {
	var s []any
	put := func(x ...any) { s = append(s, x...) }
	put(a.l[:len(a.l)+3], a.n.Ins[:len(a.n.Ins)+3])
	for _, b := range a.l {
		put(b.Nodes[:len(b.Nodes)+3], b.Nexts[:len(b.Nexts)+3], b.Exits[:len(b.Exits)+3])
		for _, n := range b.Nodes {
			put(n.Ins[:len(n.Ins)+3])
		}
	}
	return fmt.Sprint(s...)
}

// P1, P2, R4, R8: for any arguments there is an answer, it is the same again, and no argument is changed, nor what lies behind the end of a list.
func TestAnyArguments(t *testing.T) {
	r := rand.New(rand.NewSource(1))
	for range 2000 {
		a := anyArguments(r).clone()
		before := a.room()
		first := called(a)
		if after := a.room(); after != before {
			t.Fatalf("%s\n%s", before, after)
		}
		if again := called(a); again != first {
			t.Fatalf("%s\n%s\n%s", before, first, again)
		}
		if other := called(a.clone()); other != first {
			t.Fatalf("%s\n%s\n%s", before, first, other)
		}
	}
}

// P1: large lists and texts, of which most is wrong.
func TestLarge(t *testing.T) {
	names := strings.Repeat("x", 1<<20)
	for _, l := range [][]api.Block{
		make([]api.Block, 1<<16),
		slices.Repeat(made("block main 1\n  exit\n"), 1<<16),
		{{Name: names, Params: 1}},
		{{Name: "main", Params: 1, Nodes: make([]api.Node, 1<<16)}},
		{{Name: "main", Params: 1, Nodes: []api.Node{{Op: api.NStore, Ins: make([]api.From, 1<<16)}}}},
		{{Name: "main", Params: 1, Nodes: []api.Node{{Op: api.NCall, Name: names, Ins: make([]api.From, 1<<16)}}}},
		{{Name: "main", Params: greatest}},
		{{Name: "main", Params: least, Nodes: []api.Node{{Op: api.NCall, Name: "main"}}}},
	} {
		for _, number := range []int{0, 1 << 15, greatest, least} {
			called(arguments{l: l, n: api.Node{Op: api.NCall, Name: names, N: least}, number: number, s: names})
			for name, e := range failed(t, l, number) {
				if e == api.OK {
					t.Error(name)
				}
			}
		}
	}
	for _, s := range []string{strings.Repeat("block main 1\n  exit\n", 1<<14), strings.Repeat("\n", 1<<18), strings.Repeat(" ", 1<<18), strings.Repeat("block ", 1<<16), "block main 1\n" + strings.Repeat("  n0 = nil p0\n", 1<<14), "block main 1\n  exit" + strings.Repeat(" p0", 1<<16) + "\n", "block main 99999999\n  exit\n", "block main 9999999999999999999999\n  exit\n", names} {
		if l, e := block.Parse(s); len(l) != 0 || e != api.ErrForm {
			t.Error(e)
		}
	}
}

// lots are lists of several results or arguments.
type lots struct {
	blocks  [][]api.Block
	nodes   [][]api.Node
	froms   [][]api.From
	guards  [][][]api.Guard
	outs    [][]api.Guard
	conds   []api.Guard
	numbers [][]int
	uses    [][][]int
}

func (x *lots) program(l []api.Block) {
	x.blocks = append(x.blocks, l)
	for _, b := range l {
		x.nodes = append(x.nodes, b.Nodes)
		x.froms = append(x.froms, b.Nexts, b.Exits)
		for _, n := range b.Nodes {
			x.froms = append(x.froms, n.Ins)
		}
	}
}

// apart asks whether lists share no memory, neither with each other nor in their spare room.
func apart[T any, L ~[]T](t *testing.T, other T, lists ...L) {
	t.Helper()
	var told []string
	for _, list := range lists {
		told = append(told, fmt.Sprint(list))
	}
	for i, list := range lists {
		whole := list[:cap(list)]
		kept := slices.Clone(whole)
		for k := range whole {
			whole[k] = other
		}
		for k, list := range lists {
			if k != i && fmt.Sprint(list) != told[k] {
				t.Fatal(i, k, told[k], list)
			}
		}
		copy(whole, kept)
	}
}

// P2, R4: results share no memory with arguments, nor with each other or later results.
func TestNewMemory(t *testing.T) {
	const text = "block f.0 2\n  n0 = switch p1 p0\n  n1 = switch p1 p1\n  n2 = switch n0 n1\n  n3 = nil n2.1\n  n4 = merge n2 n3\n  n5 = size n4\n  next n0 n1\n  exit n0.1\nblock main 2\n  n0 = loop f.0 p0 p1\n  n1 = call g p0 n0\n  exit n0 n1\nblock g 2\n  n0 = switch p1 p0\n  n1 = switch n0 n0\n  n2 = call h n1\n  n3 = store n2.1 n2 n2.2\n  exit p1\nblock h 1\n  exit p0 p0 p0\n"
	l := right(t, text)
	x := &lots{}
	x.program(l)
	for range 2 {
		for i := range l {
			g, e := block.Guards(l, i)
			if e != api.OK {
				t.Fatal(i, e)
			}
			x.guards = append(x.guards, g)
			x.outs = append(x.outs, g...)
			for _, outs := range g {
				x.conds = append(x.conds, outs...)
			}
			u, _ := block.Uses(l, i)
			x.uses = append(x.uses, u)
			calls, _ := block.Calls(l, i)
			needs, _ := block.Needs(l, i)
			x.numbers = append(append(x.numbers, calls, needs), u...)
		}
		slim, e := block.Slim(l)
		if len(slim) != 4 {
			t.Fatal(e)
		}
		x.program(slim)
		parsed, e := block.Parse(text)
		if len(parsed) != 4 {
			t.Fatal(e)
		}
		x.program(parsed)
	}
	apart(t, api.Block{Name: "strange"}, x.blocks...)
	apart(t, api.Node{Op: 99}, x.nodes...)
	apart(t, strange(), x.froms...)
	apart(t, []api.Guard{{{From: strange()}}}, x.guards...)
	apart(t, api.Guard{{From: strange()}}, x.outs...)
	apart(t, api.Cond{From: strange()}, x.conds...)
	apart(t, -77, x.numbers...)
	apart(t, []int{-77}, x.uses...)
}

// R3: nil and empty lists are the same.
func TestNilAndEmpty(t *testing.T) {
	empty := func(l []api.Block) []api.Block {
		l = append([]api.Block{}, l...)
		for i := range l {
			b := &l[i]
			b.Nodes, b.Nexts, b.Exits = append([]api.Node{}, b.Nodes...), append([]api.From{}, b.Nexts...), append([]api.From{}, b.Exits...)
			for k := range b.Nodes {
				b.Nodes[k].Ins = append([]api.From{}, b.Nodes[k].Ins...)
			}
		}
		return l
	}
	for _, s := range samples() {
		for i := range made(s) {
			a := arguments{l: made(s), number: i, s: s}
			b := arguments{l: empty(made(s)), number: i, s: s, n: api.Node{Ins: []api.From{}}}
			if x, y := called(a), called(b); x != y {
				t.Error(x, y)
			}
		}
	}
	for _, l := range [][]api.Block{nil, {{}}, {{Name: "main", Params: 1, Nodes: []api.Node{{Op: api.NNil}}}}} {
		if x, y := called(arguments{l: l}), called(arguments{l: empty(l)}); x != y {
			t.Error(x, y)
		}
	}
}

// R2: with an error all other results are zero values (but the block of Flow).
func TestZeroWithErrors(t *testing.T) {
	r := rand.New(rand.NewSource(2))
	seen := map[api.Errno]int{}
	for range 1000 {
		a := anyArguments(r)
		for _, e := range failed(t, a.l, a.number) {
			seen[e]++
		}
		if l, e := block.Parse(a.s); e != api.OK && len(l) > 0 {
			t.Fatal(a.s, e)
		}
	}
	for _, e := range []api.Errno{api.OK, api.ErrLimit, api.ErrForm, api.ErrTwice, api.ErrState, api.ErrNone} {
		if seen[e] < 20 {
			t.Error(e, seen)
		}
	}
}
