package region_test

import (
	"fmt"
	"math/rand"
	"slices"
	"testing"

	"floodgate/api"
	"floodgate/parse"
	"floodgate/region"
)

const (
	least    = -1 << 63
	greatest = 1<<63 - 1
)

// notValid are lists of parts that are not valid, each for one reason.
func notValid() [][]api.Part {
	var all [][]api.Part
	bad := func(p api.Part) {
		all = append(all, parts(p), parts(cell("0"), p), parts(p, cell("0"), cell("1")))
	}
	for _, n := range l(-1, 101, least, greatest) {
		for _, size := range []bool{false, true} {
			b := api.Bound{Size: size, N: n}
			bad(api.Part{From: b, To: bound("0"), Step: 1})
			bad(api.Part{From: bound("0"), To: b, Step: 1})
		}
	}
	for _, step := range l(0, -1, 10, least, greatest) {
		bad(span("0", "0", step))
		bad(span("1", "0", step))
	}
	return append(all, slices.Repeat(parts(cell("0")), 13), slices.Repeat(parts(cell("#")), 200))
}

// R1: parts that are not valid come first, whatever the size and the cell are.
func TestNotValid(t *testing.T) {
	for i, all := range notValid() {
		for _, size := range l(0, 5, 100, -1, 101, least, greatest) {
			for _, one := range l(0, 4, -1, 101, least, greatest) {
				for name, e := range errorsOf(t, all, size, one) {
					if name == "Cells" && (len(all) > api.MaxRuns || valid(all[:1])) {
						continue // the first part alone is valid
					}
					if e != api.ErrArg {
						t.Fatal(i, all, size, one, name, e)
					}
				}
			}
		}
	}
}

// P5.3 to P5.7: the numbers of bounds, and steps, at both ends, and no part and 12 parts, are valid.
func TestValid(t *testing.T) {
	for _, all := range [][]api.Part{nil, {}, slices.Repeat(parts(cell("0")), 12), parts(cell("0"), cell("100"), cell("#"), cell("# - 100"), span("0", "100", 1), span("# - 100", "#", 9))} {
		for name, e := range errorsOf(t, all, 1, 0) {
			if e != api.OK && e != api.ErrNone {
				t.Error(all, name, e)
			}
		}
	}
}

// R1: sizes and cells out of their limits come next, then what there is not.
func TestRange(t *testing.T) {
	for _, all := range [][]api.Part{sample(), nil, parts(cell("5"))} {
		for _, size := range l(-1, 101, least, greatest) {
			for _, one := range l(0, 5, -1, 101, size) {
				m := errorsOf(t, all, size, one)
				for _, name := range []string{"Cells", "Misses", "First", "Who", "Fill"} {
					if e, ok := m[name]; ok && e != api.ErrRange {
						t.Error(all, size, one, name, e)
					}
				}
			}
		}
		for _, size := range l(0, 1, 4, 99, 100) {
			for _, one := range l(-1, size, 101, least, greatest) {
				for name, e := range errorsOf(t, all, size, one) {
					if (name == "Who") != (e == api.ErrRange) {
						t.Error(all, size, one, name, e)
					}
				}
			}
		}
	}
	want := map[string]api.Errno{"Misses": api.OK, "First": api.OK, "Sizes": api.OK, "Least": api.ErrNone, "Who": api.ErrNone, "Fill": api.OK, "Slim": api.OK}
	if m := errorsOf(t, nil, 1, 0); fmt.Sprint(m) != fmt.Sprint(want) {
		t.Error(m)
	}
	want = map[string]api.Errno{"Cells": api.OK, "Misses": api.OK, "First": api.ErrNone, "Sizes": api.OK, "Least": api.OK, "Who": api.OK, "Fill": api.OK, "Slim": api.OK}
	if m := errorsOf(t, sample(), 100, 99); fmt.Sprint(m) != fmt.Sprint(want) {
		t.Error(m)
	}
}

// anyNumber is a number that is often a right one.
func anyNumber(r *rand.Rand) int {
	return l(r.Intn(101), r.Intn(11), r.Intn(11), r.Intn(120)-10, int(r.Uint64()))[min(r.Intn(40), 4)]
}

// anyParts are parts of which most are valid.
func anyParts(r *rand.Rand) []api.Part {
	all := goodParts(r)
	for range r.Intn(3) {
		all = spoiled(r, all)
	}
	if r.Intn(2) == 0 && len(all) > 0 {
		p := &all[r.Intn(len(all))]
		*[]*int{&p.From.N, &p.To.N, &p.Step}[r.Intn(3)] = anyNumber(r)
	}
	if r.Intn(20) == 0 {
		all = slices.Repeat(all, 2)
	}
	return all
}

// anyTree is a tree without errors, or with some, or without form.
func anyTree(r *rand.Rand) api.Tree {
	g := &grower{r: r, spoils: 6}
	x, _, _ := parse.Parse(g.text())
	if len(x.Nodes) == 0 {
		return x
	}
	n := &x.Nodes[r.Intn(len(x.Nodes))]
	switch r.Intn(8) {
	case 0:
		n.Kind = uint8(r.Intn(70))
	case 1:
		n.N = anyNumber(r)
	case 2:
		n.Kids = append([]int{anyNumber(r)}, n.Kids...)
	case 3:
		n.Text = []string{"n", "#", "", "i1", "\xff"}[r.Intn(5)]
	case 4:
		x.Items = append(x.Items, anyNumber(r))
	}
	return x
}

// called tells what all functions answer.
func called(x api.Tree, all []api.Part, node, size, one int) string {
	var s []any
	put := func(x ...any) { s = append(s, x...) }
	at, m, e := region.Check(x)
	put(at, m, e)
	got, n, e := region.Parts(x, node)
	put(len(got), got, n, e)
	if len(all) > 0 {
		cells, e := region.Cells(all[0], size)
		put(len(cells), cells, e)
	}
	misses, e := region.Misses(all, size)
	put(len(misses), misses, e)
	m, e = region.First(all, size)
	put(m, e)
	sizes, e := region.Sizes(all)
	put(len(sizes), sizes, e)
	n, e = region.Least(all)
	put(n, e)
	n, e = region.Who(all, size, one)
	put(n, e)
	fill, e := region.Fill(all, size)
	put(len(fill), fill, e)
	slim, e := region.Slim(all)
	put(len(slim), slim, e)
	return fmt.Sprint(s...)
}

// clone copies a tree; each of its lists has room behind its end, with something in it.
func clone(t api.Tree) api.Tree {
	numbers := func(l []int) []int { return append(slices.Clone(l), -77, -77, -77)[:len(l)] }
	nodes := slices.Clone(t.Nodes)
	for i := range nodes {
		nodes[i].Kids = numbers(nodes[i].Kids)
	}
	odd := api.TreeNode{Kind: 99, Text: "odd", N: -77, At: -77}
	return api.Tree{Nodes: append(nodes, odd, odd, odd)[:len(nodes)], Items: numbers(t.Items)}
}

// room tells a tree, and parts, with what lies behind the ends of their lists.
func room(x api.Tree, all []api.Part) string {
	nodes := slices.Clone(x.Nodes[:len(x.Nodes)+3])
	for i := range x.Nodes {
		nodes[i].Kids = nodes[i].Kids[:len(nodes[i].Kids)+3]
	}
	return fmt.Sprint(nodes, x.Items[:len(x.Items)+3], all[:len(all)+3])
}

// P1, P2, R4, R8: for any arguments there is an answer, it is the same again, and no argument is changed, nor what lies behind the end of a list.
func TestAnyArguments(t *testing.T) {
	r := rand.New(rand.NewSource(1))
	for range 300 {
		x := clone(anyTree(r))
		all := anyParts(r)
		odd := api.Part{From: api.Bound{N: -77}, Step: -77}
		all = append(slices.Clone(all), odd, odd, odd)[:len(all)]
		before := room(x, all)
		node, size, one := anyNumber(r), anyNumber(r), anyNumber(r)
		first := called(x, all, node, size, one)
		if room(x, all) != before {
			t.Fatalf("%s\n%s", before, room(x, all))
		}
		if again := called(x, all, node, size, one); again != first {
			t.Fatalf("%s\n%s\n%s", before, first, again)
		}
	}
}

// apart asks whether lists share no memory, neither with each other nor in their spare room.
func apart[T any](t *testing.T, other T, lists ...[]T) {
	t.Helper()
	var told []string
	for _, list := range lists {
		told = append(told, fmt.Sprint(list))
	}
	for i, list := range lists {
		kept := slices.Clone(list)
		whole := list[:cap(list)]
		for k := range whole {
			whole[k] = other
		}
		for k, list := range lists {
			if k != i && fmt.Sprint(list) != told[k] {
				t.Fatal(i, k, told[k], list)
			}
		}
		copy(list, kept)
	}
}

// P2, R4: results share no memory with arguments, nor with each other or later results.
func TestNewMemory(t *testing.T) {
	y, node := marked(t, def("^array(n, 2) { [0] = 1; [1] = 2; [i in 2..# - 1] = x[i] }"))
	all := sample()
	lists := [][]api.Part{all}
	var numbers [][]int
	var misses [][]api.Miss
	for range 2 {
		a, _, _ := region.Parts(y, node)
		b, _ := region.Slim(all)
		lists = append(lists, a, b)
		c, _ := region.Cells(all[2], 9)
		d, _ := region.Sizes(all)
		e, _ := region.Fill(all, 9)
		numbers = append(numbers, c, d, e)
		f, _ := region.Misses(all, 0)
		misses = append(misses, f)
	}
	apart(t, api.Part{Step: -9}, lists...)
	apart(t, -9, numbers...)
	apart(t, api.Miss{Size: -9}, misses...)
}

// R3: nil and empty lists are the same.
func TestNilAndEmpty(t *testing.T) {
	for _, n := range l(-1, 0, 1, 2, 100, 101) {
		if a, b := called(api.Tree{}, nil, n, n, n), called(api.Tree{Nodes: []api.TreeNode{}, Items: []int{}}, []api.Part{}, n, n, n); a != b {
			t.Error(a, b)
		}
	}
	x := tree(t, def("array(n, 1) { [0] = 1; [i in 1..# - 1] = 2 }"))
	y := clone(x)
	for i := range y.Nodes {
		if len(y.Nodes[i].Kids) == 0 {
			x.Nodes[i].Kids, y.Nodes[i].Kids = nil, []int{}
		}
	}
	for node := range x.Nodes {
		if a, b := called(x, nil, node, 3, 1), called(y, nil, node, 3, 1); a != b {
			t.Error(a, b)
		}
	}
}
