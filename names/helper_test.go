package names_test

import (
	"fmt"
	"slices"
	"strings"
	"testing"

	"floodgate/api"
	"floodgate/names"
	"floodgate/parse"
)

func n(l ...int) []int { return l }

// def puts stmts and exprs into a def.
func def(s string) string { return "def f(a: int) -> int { " + s + " }" }

func tree(t *testing.T, s string) api.Tree {
	t.Helper()
	x, at, e := parse.Parse(s)
	if e != api.OK {
		t.Fatalf("%q %d %v", s, at, e)
	}
	return x
}

// marked returns the tree of a text in which a ^ stands before the own tokens of some nodes, and these nodes.
func marked(t *testing.T, s string) (api.Tree, []int) {
	t.Helper()
	parts := strings.Split(s, "^")
	x := tree(t, strings.Join(parts, ""))
	var nodes []int
	at := 0
	for _, part := range parts[:len(parts)-1] {
		at += len(part)
		node, e := parse.Find(x, at)
		if e != api.OK {
			t.Fatalf("%q: no node at %d", s, at)
		}
		nodes = append(nodes, node)
	}
	return x, nodes
}

// some returns those of some nodes that have the numbers.
func some(nodes []int, numbers ...int) []int {
	var l []int
	for _, i := range numbers {
		l = append(l, nodes[i])
	}
	return l
}

// find returns the nodes of a kind.
func find(x api.Tree, kind uint8) (l []int) {
	for i, y := range x.Nodes {
		if y.Kind == kind {
			l = append(l, i)
		}
	}
	return l
}

// all are the numbers of the nodes of a tree, and some that are none.
func all(x api.Tree) []int {
	l := n(-1<<63, -1, len(x.Nodes), 1<<63-1)
	for i := range x.Nodes {
		l = append(l, i)
	}
	return l
}

func isExpr(x api.Tree, node int) bool {
	return node >= 0 && node < len(x.Nodes) && x.Nodes[node].Kind <= api.ArrayNode
}

func isKind(x api.Tree, node int, kinds ...uint8) bool {
	return node >= 0 && node < len(x.Nodes) && slices.Contains(kinds, x.Nodes[node].Kind)
}

func isDeclaration(x api.Tree, node int) bool {
	return isKind(x, node, api.DefItem, api.ParamNode, api.BindNode, api.InitNode, api.SpanNode)
}

// clone copies a tree; with room, each of its lists has room behind its end, with something in it.
func clone(t api.Tree, room int) api.Tree {
	numbers := func(l []int) []int {
		return append(slices.Clone(l), slices.Repeat([]int{-77}, room)...)[:len(l)]
	}
	nodes := slices.Clone(t.Nodes)
	for i := range nodes {
		nodes[i].Kids = numbers(nodes[i].Kids)
	}
	odd := api.TreeNode{Kind: 99, Text: "odd", N: -77, At: -77}
	return api.Tree{Nodes: append(nodes, slices.Repeat([]api.TreeNode{odd}, room)...)[:len(nodes)], Items: numbers(t.Items)}
}

func told(x api.Tree) string { return fmt.Sprintf("%q %v", fmt.Sprint(x.Nodes), x.Items) }

// errorsOf are the errors of all functions, for a tree and for other arguments that are wrong. What is told together with an error must be nothing.
func errorsOf(t *testing.T, x api.Tree) map[string]api.Errno {
	t.Helper()
	m := map[string]api.Errno{}
	put := func(name string, nothing bool, e api.Errno) {
		m[name] = e
		if e != api.OK && !nothing {
			t.Error(name, "told something together with an error", e)
		}
	}
	k, _, e := names.Resolve(x)
	put("Resolve", len(k.Of) == 0, e)
	l, e := names.Uses(x, -1)
	put("Uses", len(l) == 0, e)
	l, e = names.Sight(x, -1)
	put("Sight", len(l) == 0, e)
	late, e := names.Late(x, -1, -1)
	put("Late", !late, e)
	l, e = names.Needs(x, -1)
	put("Needs", len(l) == 0, e)
	l, e = names.Order(x, -1)
	put("Order", len(l) == 0, e)
	l, e = names.Outside(x, -1)
	put("Outside", len(l) == 0, e)
	l, e = names.Calls(x, -1)
	put("Calls", len(l) == 0, e)
	l, e = names.Dead(x)
	put("Dead", len(l) == 0, e)
	y, e := names.Rename(x, -1, "")
	put("Rename", len(y.Nodes)+len(y.Items) == 0, e)
	return m
}

// shown is the text of a tree, or, if it is too long, its nodes.
func shown(x api.Tree) string {
	if s, e := parse.Print(x); e == api.OK {
		return s
	}
	return told(x)
}

// replaced puts a name where ^1 stands.
func replaced(s, name string) string { return strings.ReplaceAll(s, "^1", "^"+name) }

func unmarked(s string) string { return strings.ReplaceAll(s, "^", "") }
