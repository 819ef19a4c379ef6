package types_test

import (
	"fmt"
	"math/rand"
	"slices"
	"testing"

	"floodgate/api"
	"floodgate/names"
	"floodgate/parse"
	"floodgate/types"
)

// anyTree is a tree without errors, or with some, or without form.
func anyTree(r *rand.Rand) api.Tree {
	number := func() int {
		if r.Intn(10) == 0 {
			return int(r.Uint64())
		}
		return r.Intn(12) - 1
	}
	x, _ := grown(r.Int63(), r.Int63(), 100)
	switch r.Intn(4) {
	case 0:
		if len(x.Nodes) > 0 {
			x, _, _ = parse.Parse(spoiled(r, shown(x)))
		}
	case 1:
		for range 2 {
			if len(x.Nodes) > 0 {
				n := &x.Nodes[r.Intn(len(x.Nodes))]
				*n = []api.TreeNode{{Kind: uint8(number()), Text: n.Text, Kids: n.Kids}, {Kind: n.Kind, Text: "if", N: n.N, Kids: n.Kids}, {Kind: n.Kind, Text: n.Text, N: number(), Kids: n.Kids}, {Kind: n.Kind, Text: n.Text, N: n.N, Kids: append([]int{number()}, n.Kids...)}}[r.Intn(4)]
			}
		}
	case 2:
		x = api.Tree{}
		for range r.Intn(12) {
			n := api.TreeNode{Kind: uint8(r.Intn(70)), Text: l("", "a", "\xff")[r.Intn(3)], N: number(), At: number()}
			for range r.Intn(4) {
				n.Kids = append(n.Kids, number())
			}
			x.Nodes = append(x.Nodes, n)
		}
		for range r.Intn(3) {
			x.Items = append(x.Items, number())
		}
	}
	return x
}

// called tells what all functions answer.
func called(x api.Tree, i int, s string) string {
	var l []any
	put := func(x ...any) { l = append(l, x...) }
	k, node, e := types.Infer(x)
	put(fmt.Sprintf("%q", k.Of), node, e)
	node, e = types.Check(x)
	put(node, e)
	of, e := types.Of(x, i)
	many, f := types.Arity(x, i)
	put(fmt.Sprintf("%q", of), e, many, f)
	params, results, e := types.Sign(x, i)
	put(fmt.Sprintf("%q %q", params, results), e)
	word, part, e := types.Split(s)
	parts, f := types.Deep(s)
	put(word, part, e, parts, f)
	plain, e := types.Plain(x)
	bare, f := types.Bare(x)
	put(told(plain), e, told(bare), f)
	return fmt.Sprint(l...)
}

// room tells a tree with what lies behind the ends of its lists.
func room(x api.Tree) string {
	nodes := slices.Clone(x.Nodes[:len(x.Nodes)+3])
	for i := range x.Nodes {
		nodes[i].Kids = nodes[i].Kids[:len(nodes[i].Kids)+3]
	}
	return fmt.Sprint(nodes, x.Items[:len(x.Items)+3])
}

// P1, P2, R4, R8: for any arguments there is an answer, it is the same again, and no argument is changed, nor what lies behind the end of a list.
func TestAnyArguments(t *testing.T) {
	r := rand.New(rand.NewSource(1))
	for range 600 {
		x := clone(anyTree(r), 3)
		before := room(x)
		i, s := r.Intn(60)-2, l("int", "[bool]", "stream", "", "\xff", "[stream int]", "[[")[r.Intn(7)]
		if r.Intn(20) == 0 {
			i = int(r.Uint64())
		}
		first := called(x, i, s)
		if room(x) != before {
			t.Fatalf("%s\n%s", before, room(x))
		}
		if again := called(x, i, s); again != first {
			t.Fatalf("%s\n%s\n%s", room(x), first, again)
		}
	}
}

// R1: all functions tell the error of parse.Check first, then that of names.Resolve, then that of the types.
func TestErrorsFirst(t *testing.T) {
	r := rand.New(rand.NewSource(2))
	many := map[api.Errno]int{}
	for range 1500 {
		x := anyTree(r)
		_, at, want := names.Resolve(x)
		if want == api.OK {
			_, at, want = types.Infer(x)
		}
		if want == api.OK {
			continue
		}
		many[want]++
		for name, e := range errorsOf(t, x) {
			if e != want {
				t.Fatal(name, told(x), e, want)
			}
		}
		if _, node, _ := types.Infer(x); node != at {
			t.Fatal(told(x), node, at)
		}
	}
	for _, e := range []api.Errno{api.ErrForm, api.ErrName, api.ErrType} {
		if many[e] < 20 {
			t.Error(e, many[e])
		}
	}
	// Trees that are too large, without form, or too deep, whose names and types would have errors as well.
	large := api.Tree{Nodes: slices.Repeat([]api.TreeNode{{}}, api.MaxNodes+1)}
	const s = "def f() -> int { give -true + b }"
	formless, sunk := tree(t, s), tree(t, s)
	formless.Nodes[1].N = 2
	under := append(sunk.Nodes[:5:5], slices.Repeat([]api.TreeNode{{Kind: api.NegNode}}, api.MaxDeep)...)
	for i := 5; i < len(under); i++ {
		under[i].Kids = []int{i - 1}
	}
	last := len(under) + 1
	sunk = api.Tree{Nodes: append(under, api.TreeNode{Kind: api.BlockNode, Kids: []int{last - 2}}, api.TreeNode{Kind: api.DefItem, Text: "f", Kids: []int{0, last - 1}}), Items: []int{last}}
	for _, x := range []struct {
		x    api.Tree
		want api.Errno
	}{{large, api.ErrLimit}, {formless, api.ErrForm}, {sunk, api.ErrLimit}} {
		for name, e := range errorsOf(t, x.x) {
			if _, node, _ := types.Infer(x.x); e != x.want || node != 0 || parse.Check(x.x) != x.want {
				t.Error(name, e, node, x.want)
			}
		}
	}
}

// P4.3, R1: numbers of nodes and items that are none, of trees that have types.
func TestNone(t *testing.T) {
	m := errorsOf(t, tree(t, "def f() -> int { give 1 }"))
	want := map[string]api.Errno{"Infer": api.OK, "Check": api.ErrNone, "Of": api.ErrNone, "Arity": api.ErrNone, "Sign": api.ErrNone, "Plain": api.OK, "Bare": api.OK}
	if fmt.Sprint(m) != fmt.Sprint(want) {
		t.Error(m)
	}
}

// apart asks whether lists share no memory, neither with each other nor in their spare room.
func apart(t *testing.T, lists ...[]string) {
	t.Helper()
	before := fmt.Sprintf("%q", lists)
	for i, list := range lists {
		kept := slices.Clone(list)
		whole := list[:cap(list)]
		for k := range whole {
			whole[k] = "changed"
		}
		copy(list, kept)
		if after := fmt.Sprintf("%q", lists); after != before {
			t.Fatal(i, before, after)
		}
		for k := range list {
			list[k] = "changed"
		}
		for k, other := range lists {
			if k != i && slices.Contains(other, "changed") {
				t.Fatal(i, k, before)
			}
		}
		copy(list, kept)
	}
}

// P2, R4: results share no memory with arguments, nor with each other or later results.
func TestNewMemory(t *testing.T) {
	x := tree(t, everything)
	before := told(x)
	k, _, _ := types.Infer(x)
	other, _, _ := types.Infer(x)
	lists := append(slices.Clone(k.Of), other.Of...)
	for range 2 {
		for i := range x.Nodes {
			list, _ := types.Of(x, i)
			lists = append(lists, list)
		}
		for i := range x.Items {
			params, results, _ := types.Sign(x, i)
			lists = append(lists, params, results)
		}
	}
	apart(t, lists...)
	y := tree(t, "def main(p: [int]) -> int { x = p; y, z: int = if true { give x, 1 } else { give p, 2 }; give y[z] } def g() -> bool { u = true; give u }")
	before = before + told(y)
	for name, f := range map[string]func(api.Tree) (api.Tree, api.Errno){"Plain": types.Plain, "Bare": types.Bare} {
		z, e := f(y)
		kept := told(z)
		if e != api.OK {
			t.Fatal(name, e)
		}
		for i := range z.Nodes {
			kids := slices.Clone(z.Nodes[i].Kids)
			whole := z.Nodes[i].Kids[:cap(z.Nodes[i].Kids)]
			for k := range whole {
				whole[k] = -9
			}
			copy(whole, kids)
			if told(z) != kept || told(x)+told(y) != before {
				t.Fatal(name, i, "shared kids")
			}
		}
		for i := range z.Nodes {
			for k := range z.Nodes[i].Kids {
				z.Nodes[i].Kids[k] = -9
			}
			z.Nodes[i].Text = "changed"
		}
		z.Items[0] = -9
		if again, _ := f(y); told(x)+told(y) != before || told(again) != kept {
			t.Fatal(name, told(y), told(again))
		}
	}
}

// R3: nil and empty lists are the same.
func TestNilAndEmpty(t *testing.T) {
	x := tree(t, everything)
	y := clone(x, 0)
	for i := range y.Nodes {
		if len(y.Nodes[i].Kids) == 0 {
			x.Nodes[i].Kids, y.Nodes[i].Kids = nil, []int{}
		}
	}
	for _, i := range numbers(x) {
		if a, b := called(x, i, "int"), called(y, i, "int"); a != b {
			t.Error(i, a, b)
		}
	}
	if a, b := called(api.Tree{}, 0, ""), called(api.Tree{Nodes: []api.TreeNode{}, Items: []int{}}, 0, ""); a != b {
		t.Error(a, b)
	}
}
