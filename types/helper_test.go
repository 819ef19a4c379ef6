package types_test

import (
	"fmt"
	"slices"
	"strings"
	"testing"

	"floodgate/api"
	"floodgate/parse"
	"floodgate/types"
)

func l(s ...string) []string { return s }

// deep is a type with so many parts.
func deep(parts int) string {
	return strings.Repeat("[", parts-1) + "int" + strings.Repeat("]", parts-1)
}

// more are items that give several values, or ask for several, for expressions to call.
const more = " def two() -> int, int { give 1, 2 } def mix() -> int, bool, stream int { give 1, true, nil(int) } def four() -> bool, int, int, [int] { give true, 1, 2, array(1) { [0] = 1 } } def ask(i: int, b: bool) -> bool, int { give b, i }"

// def puts stmts and exprs into a def with params of several types, and other items behind it.
func def(s string) string {
	return "def f(i: int, b: bool, s: stream int, a: [int], z: stream bool) -> int { " + s + " }" + more
}

// expr puts an expression into a stmt that has one bind.
func expr(s string) string { return def("r = " + s + "; give 1") }

func tree(t *testing.T, s string) api.Tree {
	t.Helper()
	x, at, e := parse.Parse(s)
	if e != api.OK {
		t.Fatalf("%q %d %v", s, at, e)
	}
	return x
}

// marked returns the tree of a text in which a ^ stands before the own tokens of some nodes, and these nodes.
func marked(t *testing.T, s string) (api.Tree, []int) {
	t.Helper()
	parts := strings.Split(s, "^")
	x := tree(t, strings.Join(parts, ""))
	var nodes []int
	at := 0
	for _, part := range parts[:len(parts)-1] {
		at += len(part)
		node, e := parse.Find(x, at)
		if e != api.OK {
			t.Fatalf("%q: no node at %d", s, at)
		}
		nodes = append(nodes, node)
	}
	return x, nodes
}

// right asks whether a text has types, and the marked nodes all have these.
func right(t *testing.T, s string, want ...string) {
	t.Helper()
	x, nodes := marked(t, s)
	k, node, e := types.Infer(x)
	if e != api.OK || node != 0 || len(k.Of) != len(x.Nodes) {
		t.Error(s, node, e)
		return
	}
	for _, i := range nodes {
		if !slices.Equal(k.Of[i], want) {
			t.Error(s, i, k.Of[i], want)
		}
	}
}

// wrong asks whether a text has its first error at the marked node.
func wrong(t *testing.T, s string) {
	t.Helper()
	wrongWith(t, s, api.ErrType)
}

func wrongWith(t *testing.T, s string, want api.Errno) {
	t.Helper()
	x, nodes := marked(t, s)
	k, node, e := types.Infer(x)
	if e != want || node != nodes[0] || len(k.Of) != 0 {
		t.Error(s, node, nodes[0], e)
	}
	if node, e := types.Check(x); e != want || node != nodes[0] {
		t.Error("Check", s, node, nodes[0], e)
	}
}

// clone copies a tree; with room, each of its lists has room behind its end, with something in it.
func clone(t api.Tree, room int) api.Tree {
	numbers := func(l []int) []int {
		return append(slices.Clone(l), slices.Repeat([]int{-77}, room)...)[:len(l)]
	}
	nodes := slices.Clone(t.Nodes)
	for i := range nodes {
		nodes[i].Kids = numbers(nodes[i].Kids)
	}
	odd := api.TreeNode{Kind: 99, Text: "odd", N: -77, At: -77}
	return api.Tree{Nodes: append(nodes, slices.Repeat([]api.TreeNode{odd}, room)...)[:len(nodes)], Items: numbers(t.Items)}
}

func told(x api.Tree) string { return fmt.Sprintf("%q %v", fmt.Sprint(x.Nodes), x.Items) }

// shown is the text of a tree, or, if it is too long, its nodes.
func shown(x api.Tree) string {
	if s, e := parse.Print(x); e == api.OK {
		return s
	}
	return told(x)
}

// numbers are the numbers of the nodes of a tree, and some that are none.
func numbers(x api.Tree) []int {
	l := []int{-1 << 63, -1, len(x.Nodes), 1<<63 - 1}
	for i := range x.Nodes {
		l = append(l, i)
	}
	return l
}

// errorsOf are the errors of all functions with a tree, for it and for other arguments that are wrong. What is told together with an error must be nothing.
func errorsOf(t *testing.T, x api.Tree) map[string]api.Errno {
	t.Helper()
	m := map[string]api.Errno{}
	put := func(name string, nothing bool, e api.Errno) {
		m[name] = e
		if e != api.OK && !nothing {
			t.Error(name, "told something together with an error", e)
		}
	}
	k, node, e := types.Infer(x)
	put("Infer", len(k.Of) == 0, e)
	other, e := types.Check(x)
	put("Check", other == node || e == api.ErrNone && other == 0, e)
	of, e := types.Of(x, -1)
	put("Of", len(of) == 0, e)
	many, e := types.Arity(x, -1)
	put("Arity", many == 0, e)
	params, results, e := types.Sign(x, -1)
	put("Sign", len(params)+len(results) == 0, e)
	y, e := types.Plain(x)
	put("Plain", len(y.Nodes)+len(y.Items) == 0, e)
	y, e = types.Bare(x)
	put("Bare", len(y.Nodes)+len(y.Items) == 0, e)
	return m
}

// isUnder reports for each node whether it belongs to the type of a BindNode, of those that are asked for.
func isUnder(x api.Tree, asked func(bind int) bool) []bool {
	under := make([]bool, len(x.Nodes))
	for i := len(x.Nodes) - 1; i >= 0; i-- {
		n := x.Nodes[i]
		for _, kid := range n.Kids {
			under[kid] = under[i] || n.Kind == api.BindNode && asked(i)
		}
	}
	return under
}

func all(int) bool { return true }

// without leaves the types of some BindNodes out.
func without(x api.Tree, asked func(bind int) bool) api.Tree {
	under := isUnder(x, asked)
	var y api.Tree
	numbers := map[int]int{}
	for i, n := range x.Nodes {
		if under[i] {
			continue
		}
		var kids []int
		for _, kid := range n.Kids {
			if !under[kid] {
				kids = append(kids, numbers[kid])
			}
		}
		n.Kids = kids
		numbers[i] = len(y.Nodes)
		y.Nodes = append(y.Nodes, n)
	}
	for _, item := range x.Items {
		y.Items = append(y.Items, numbers[item])
	}
	return y
}

// kept are the types of all nodes but those of the types of BindNodes.
func kept(x api.Tree, k api.Types) string {
	var l []string
	for i, under := range isUnder(x, all) {
		if !under {
			l = append(l, fmt.Sprintf("%q", k.Of[i]))
		}
	}
	return strings.Join(l, "\n")
}
