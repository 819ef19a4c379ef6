package names_test

import (
	"fmt"
	"math/rand"
	"slices"
	"testing"

	"floodgate/api"
	"floodgate/names"
	"floodgate/parse"
)

// anyTree is a tree without errors, or with some, or without form.
func anyTree(r *rand.Rand) api.Tree {
	number := func() int {
		if r.Intn(10) == 0 {
			return int(r.Uint64())
		}
		return r.Intn(12) - 1
	}
	x := grown(r, 2, 3)
	switch r.Intn(4) {
	case 0:
		x = spoiled(r, x)
	case 1:
		for range 2 {
			if len(x.Nodes) > 0 {
				k := &x.Nodes[r.Intn(len(x.Nodes))]
				*k = []api.TreeNode{{Kind: uint8(number()), Text: k.Text, Kids: k.Kids}, {Kind: k.Kind, Text: "if", N: k.N, Kids: k.Kids}, {Kind: k.Kind, Text: k.Text, N: number(), Kids: k.Kids}, {Kind: k.Kind, Text: k.Text, N: k.N, Kids: append(n(number()), k.Kids...)}}[r.Intn(4)]
			}
		}
	case 2:
		x = api.Tree{}
		for range r.Intn(12) {
			k := api.TreeNode{Kind: uint8(r.Intn(70)), Text: []string{"", "a", "\xff"}[r.Intn(3)], N: number(), At: number()}
			for range r.Intn(4) {
				k.Kids = append(k.Kids, number())
			}
			x.Nodes = append(x.Nodes, k)
		}
		for range r.Intn(3) {
			x.Items = append(x.Items, number())
		}
	}
	return x
}

// called tells what all functions answer.
func called(x api.Tree, i, k int, name string) string {
	var l []any
	put := func(x ...any) { l = append(l, x...) }
	of, node, e := names.Resolve(x)
	put(of, node, e)
	for _, f := range []lister{names.Uses, names.Sight, names.Needs, names.Order, names.Outside, names.Calls} {
		list, e := f(x, i)
		put(list, e)
	}
	late, e := names.Late(x, i, k)
	put(late, e)
	list, e := names.Dead(x)
	put(list, e)
	y, e := names.Rename(x, i, name)
	put(told(y), e)
	return fmt.Sprint(l...)
}

// room tells a tree with what lies behind the ends of its lists.
func room(x api.Tree) string {
	nodes := slices.Clone(x.Nodes[:len(x.Nodes)+3])
	for i := range x.Nodes {
		nodes[i].Kids = nodes[i].Kids[:len(nodes[i].Kids)+3]
	}
	return fmt.Sprint(nodes, x.Items[:len(x.Items)+3])
}

// P1, P2, R4, R8: for any arguments there is an answer, it is the same again, and no argument is changed, nor what lies behind the end of a list.
func TestAnyArguments(t *testing.T) {
	r := rand.New(rand.NewSource(1))
	for range 1500 {
		x := clone(anyTree(r), 3)
		before := room(x)
		i, k, name := r.Intn(40)-2, r.Intn(60)-2, []string{"a", "a1", "b2", "fresh", "if", "", "\xff"}[r.Intn(7)]
		if r.Intn(20) == 0 {
			i, k = int(r.Uint64()), int(r.Uint64())
		}
		first := called(x, i, k, name)
		if room(x) != before {
			t.Fatalf("%s\n%s", before, room(x))
		}
		if again := called(x, i, k, name); again != first {
			t.Fatalf("%s\n%s\n%s", room(x), first, again)
		}
	}
}

// R1: with any tree that parse.Check does not let pass all functions tell its error.
func TestFormFirst(t *testing.T) {
	r := rand.New(rand.NewSource(2))
	wrong := 0
	for range 600 {
		x := anyTree(r)
		want := parse.Check(x)
		if want == api.OK {
			continue
		}
		wrong++
		for name, e := range errorsOf(t, x) {
			if e != want {
				t.Fatal(name, told(x), e, want)
			}
		}
		if _, node, _ := names.Resolve(x); node != 0 {
			t.Fatal(told(x), node)
		}
	}
	if wrong < 200 {
		t.Error("only so many trees without form:", wrong)
	}
}

// P2, R4: results share no memory with arguments, nor with each other or later results.
func TestNewMemory(t *testing.T) {
	x := tree(t, "def main(a: int) -> int { b = c + d; c = d; d = a; give loop(i := main(b)) while i < b do { e = g; g = i; next i = e; } give(i + c) } def h() -> int { give main(1) + h() }")
	block, loop, set := find(x, api.BlockNode)[0], find(x, api.LoopNode)[0], find(x, api.SetNode)[0]
	before := told(x)
	for i, f := range []func() []int{
		func() []int { k, _, _ := names.Resolve(x); return k.Of },
		func() []int { l, _ := names.Uses(x, x.Items[0]); return l },
		func() []int { l, _ := names.Sight(x, loop); return l },
		func() []int { l, _ := names.Needs(x, set); return l },
		func() []int { l, _ := names.Order(x, block); return l },
		func() []int { l, _ := names.Order(x, loop); return l },
		func() []int { l, _ := names.Outside(x, loop); return l },
		func() []int { l, _ := names.Calls(x, 1); return l },
		func() []int { l, _ := names.Dead(x); return l },
	} {
		l := f()
		kept := slices.Clone(l)
		if len(l) == 0 {
			t.Error(i, "nothing told")
		}
		l = l[:cap(l)]
		for j := range l {
			l[j] = -9
		}
		if told(x) != before || !slices.Equal(f(), kept) {
			t.Error(i, told(x))
		}
	}
	y, _ := names.Rename(x, 1, "z")
	kept := told(y)
	for i := range y.Nodes {
		kids := slices.Clone(y.Nodes[i].Kids)
		room := y.Nodes[i].Kids[:cap(y.Nodes[i].Kids)]
		for j := range room {
			room[j] = -9
		}
		copy(room, kids)
		if told(y) != kept || told(x) != before {
			t.Error(told(x))
		}
		for j := range room {
			room[j] = -9
		}
		if told(x) != before {
			t.Fatal(i, "shared kids")
		}
		copy(room, kids)
	}
	y.Items[0], y.Nodes[0].Text = -9, "changed"
	if z, _ := names.Rename(x, 1, "z"); told(x) != before || told(z) != kept {
		t.Error(told(x), told(z))
	}
}

// R3: nil and empty lists are the same.
func TestNilAndEmpty(t *testing.T) {
	x := tree(t, everything)
	y := clone(x, 0)
	for i := range y.Nodes {
		if len(y.Nodes[i].Kids) == 0 {
			x.Nodes[i].Kids, y.Nodes[i].Kids = nil, []int{}
		}
	}
	for _, i := range all(x) {
		if a, b := called(x, i, 9, "z9"), called(y, i, 9, "z9"); a != b {
			t.Error(i, a, b)
		}
	}
	for _, x := range []api.Tree{{}, {Nodes: []api.TreeNode{}, Items: []int{}}} {
		k, node, e := names.Resolve(x)
		l, f := names.Dead(x)
		if len(k.Of) != 0 || node != 0 || e != api.OK || len(l) != 0 || f != api.OK {
			t.Error(k, node, e, l, f)
		}
	}
}

// The chapter's examples.
func TestExamples(t *testing.T) {
	x, nodes := marked(t, "def main() -> int ^{ x ^= y + 1; y ^= head(s); s ^= 2 :: r; r ^= 3 :: s; give x }")
	for set, want := range map[int][]int{1: n(2), 2: n(3), 3: nil, 4: nil} {
		if l, e := names.Needs(x, nodes[set]); !slices.Equal(l, some(nodes, want...)) || e != api.OK {
			t.Error(set, l, e)
		}
	}
	if l, e := names.Order(x, nodes[0]); !slices.Equal(l, some(nodes, 3, 2, 1, 4)) || e != api.OK {
		t.Error(l, e)
	}
	wrong(t, "def f() -> int { x ^= x + 1; give x }", api.ErrState)
	wrong(t, "def f() -> stream int { s ^= loop(i := 0) while i < 2 do { next i = head(s); } give(1 :: s); give s }", api.ErrState)
	wrong(t, "def f() -> stream int { s = loop(r := 1 :: s) while false do { } give(r); give s }", api.OK)
	wrong(t, "def f(a: int) -> int { ^a = 1; give a }", api.ErrTwice)
	wrong(t, "def f() -> int { give ^g(1) }", api.ErrName)
}
