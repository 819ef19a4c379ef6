package need_test

import (
	"fmt"
	"slices"
	"strings"
	"testing"

	"floodgate/api"
	"floodgate/cells"
	"floodgate/need"
	"floodgate/parse"
)

func num(n int) api.Value { return api.Value{Kind: api.VInt, N: n} }

func truth(n int) api.Value { return api.Value{Kind: api.VBool, N: n} }

func ref(n int) api.Value { return api.Value{Kind: api.VRef, N: n} }

func bad(n int) api.Value { return api.Value{Kind: api.VBad, N: n} }

func hole() api.Value { return api.Value{} }

func none() api.Value { return api.Value{Kind: api.VNil} }

func values(v ...api.Value) []api.Value { return v }

func picture(l []api.Value, c ...[]api.Value) api.Picture { return api.Picture{Values: l, Cells: c} }

func samePicture(a, b api.Picture) bool {
	return slices.Equal(a.Values, b.Values) && slices.EqualFunc(a.Cells, b.Cells, slices.Equal[[]api.Value])
}

func isNothing(p api.Picture) bool { return len(p.Values)+len(p.Cells) == 0 }

// open is an input of integers behind which others can come, closed one that has no more.
func open(l ...int) api.Inputs { return api.Inputs{L: [][]int{l}, Closed: []bool{false}} }

func closed(l ...int) api.Inputs { return api.Inputs{L: [][]int{l}, Closed: []bool{true}} }

func nothing() api.Inputs { return api.Inputs{} }

// main puts stmts and exprs into a main without params, on into one with a stream s.
func main(results, s string) string { return "def main() -> " + results + " { " + s + " }" }

func on(results, s string) string {
	return "def main(s: stream int) -> " + results + " { " + s + " }"
}

func tree(t *testing.T, s string) api.Tree {
	t.Helper()
	x, at, e := parse.Parse(s)
	if e != api.OK {
		t.Fatalf("%q %d %v", s, at, e)
	}
	return x
}

// marked returns the tree of a text in which a ^ stands before the own tokens of some nodes, and these nodes, ascending.
func marked(t *testing.T, s string) (api.Tree, []int) {
	t.Helper()
	parts := strings.Split(s, "^")
	x := tree(t, strings.Join(parts, ""))
	var nodes []int
	at := 0
	for _, part := range parts[:len(parts)-1] {
		at += len(part)
		node, e := parse.Find(x, at)
		if e != api.OK {
			t.Fatalf("%q: no node at %d", s, at)
		}
		nodes = append(nodes, node)
	}
	slices.Sort(nodes)
	return x, nodes
}

// shown is the text of a tree, or, if it is too long, its nodes.
func shown(x api.Tree) string {
	if s, e := parse.Print(x); e == api.OK {
		return s
	}
	return fmt.Sprint(x)
}

// comes asks whether a text comes to a picture with this text, also over its tree, and as the oracle says.
func comes(t *testing.T, s string, in api.Inputs, deep int, want string) {
	t.Helper()
	if got, at, e := need.Text(s, in, deep); got != want || at != 0 || e != api.OK {
		t.Error(s, in, got, want, at, e)
		return
	}
	x := tree(t, s)
	p, e := need.Run(x, in)
	if got, f := cells.Show(p, deep); got != want || e != api.OK || f != api.OK {
		t.Error(s, in, got, want, e, f)
	}
	agree(t, x, in)
}

// mainOf is the DefItem main.
func mainOf(x api.Tree) int {
	return x.Items[slices.IndexFunc(x.Items, func(item int) bool { return x.Nodes[item].Text == "main" })]
}

// oracleOf works a program out with the oracle.
func oracleOf(x api.Tree, in api.Inputs) *oracle {
	m, values, _ := cells.Build(in.L, in.Closed)
	return work(x, mainOf(x), m, values)
}

// agree asks whether all that is told of a program is what the oracle says, which is returned.
func agree(t *testing.T, x api.Tree, in api.Inputs) *oracle {
	t.Helper()
	o := oracleOf(x, in)
	p, e := need.Run(x, in)
	times, e1 := need.Times(x, in)
	unused, e2 := need.Unused(x, in)
	knots, e3 := need.Knots(x, in)
	contexts, structs, e4 := need.Count(x, in)
	if e1 != e || e2 != e || e3 != e || e4 != e || o.full != (e == api.ErrLimit) || !o.full && e != api.OK {
		t.Fatal(shown(x), in, e, e1, e2, e3, e4, o.full)
	}
	if o.full {
		if !isNothing(p) || len(times)+len(unused)+len(knots)+contexts+structs > 0 {
			t.Fatal(shown(x), in, p, times, unused, knots, contexts, structs)
		}
		return o
	}
	if !samePicture(p, o.picture) {
		t.Fatal(shown(x), in, p, o.picture)
	}
	if want := o.times(); !slices.Equal(times, want) {
		t.Fatal(shown(x), in, times, want)
	}
	if want := o.unused(); !slices.Equal(unused, want) {
		t.Fatal(shown(x), in, unused, want)
	}
	if want := o.knots(); !slices.Equal(knots, want) {
		t.Fatal(shown(x), in, knots, want)
	}
	if a, b := o.count(); contexts != a || structs != b {
		t.Fatal(shown(x), in, contexts, structs, a, b)
	}
	return o
}

// clone copies a tree; with room, each of its lists has room behind its end, with something in it.
func clone(t api.Tree, room int) api.Tree {
	nodes := slices.Clone(t.Nodes)
	for i := range nodes {
		nodes[i].Kids = roomy(nodes[i].Kids, -77, room)
	}
	return api.Tree{Nodes: roomy(nodes, api.TreeNode{Kind: 99, Text: "odd", N: -77, At: -77}, room), Items: roomy(t.Items, -77, room)}
}

// roomy copies a list; behind its end there is room, with something in it.
func roomy[T any](l []T, other T, room int) []T {
	return append(slices.Clone(l), slices.Repeat([]T{other}, room)...)[:len(l)]
}
