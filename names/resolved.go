package names

import (
	"slices"

	"floodgate/api"
	"floodgate/parse"
)

// resolved is a tree whose names are resolved.
type resolved struct {
	rooted
	of    []int   // what each node means, or -1
	needs [][]int // which SetNodes each SetNode needs at once
}

// resolve resolves the names of a tree, or returns its error, and the node that has it.
func resolve(t api.Tree) (resolved, int, api.Errno) {
	if e := parse.Check(t); e != api.OK {
		return resolved{}, 0, e
	}
	r := resolved{rooted: newRooted(t)}
	for node := range t.Nodes {
		r.of = append(r.of, r.meant(node))
		if e := r.wrong(node); e != api.OK {
			return resolved{}, node, e
		}
	}
	r.needs = r.needed()
	for node := range t.Nodes {
		if r.needsItself(node) {
			return resolved{}, node, api.ErrState
		}
	}
	return r, 0, api.OK
}

// wrong returns the error of a node with its name.
func (r resolved) wrong(node int) api.Errno {
	if r.twice(node) {
		return api.ErrTwice
	}
	if r.shouldMean(node) && r.of[node] < 0 {
		return api.ErrName
	}
	return api.OK
}

// uses returns the nodes that mean a declaration.
func (r resolved) uses(node int) []int {
	var l []int
	for use, of := range r.of {
		if of == node {
			l = append(l, use)
		}
	}
	return l
}

// outside returns the declarations that an expression, or a SpanNode, uses from outside.
func (r resolved) outside(node int) []int {
	from := r.first(node)
	if r.is(node, api.LoopNode) {
		from = slices.Max(r.inits(node)) + 1 // behind them its inside begins
	}
	var l []int
	for use := from; use <= node; use++ {
		if r.is(use, api.NameNode) && !r.within(r.of[use], node) {
			l = append(l, r.of[use])
		}
	}
	return ascending(l...)
}

// calls returns the items that an item calls.
func (r resolved) calls(item int) []int {
	top := r.Items[item]
	var l []int
	for node := r.first(top); node <= top; node++ {
		if r.is(node, api.CallNode) {
			l = append(l, slices.Index(r.Items, r.of[node]))
		}
	}
	return ascending(l...)
}

// dead returns the items that main does not call.
func (r resolved) dead() []int {
	living := map[int]bool{}
	main := slices.IndexFunc(r.Items, func(node int) bool { return r.Nodes[node].Text == "main" })
	if main >= 0 {
		spread(living, r.calls, main)
	}
	var l []int
	for item := range r.Items {
		if !living[item] {
			l = append(l, item)
		}
	}
	return l
}

// spread lets nodes live, and with each one all to which it leads.
func spread(living map[int]bool, leads func(node int) []int, nodes ...int) {
	for _, node := range nodes {
		if !living[node] {
			living[node] = true
			spread(living, leads, leads(node)...)
		}
	}
}

// renamed returns a tree, in new memory, in which a declaration, and all nodes that mean it, have another Text.
func (r resolved) renamed(node int, name string) api.Tree {
	t := api.Tree{Items: slices.Clone(r.Items)}
	for i, n := range r.Nodes {
		n.Kids = slices.Clone(n.Kids)
		if i == node || r.of[i] == node {
			n.Text = name
		}
		t.Nodes = append(t.Nodes, n)
	}
	return t
}
