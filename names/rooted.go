package names

import (
	"slices"

	"floodgate/api"
)

// rooted is a tree whose parents are known.
type rooted struct {
	api.Tree
	parents []int // -1 of an item
}

func newRooted(t api.Tree) rooted {
	r := rooted{t, make([]int, len(t.Nodes))}
	for _, item := range t.Items {
		r.parents[item] = -1
	}
	for i, n := range t.Nodes {
		for _, kid := range n.Kids {
			r.parents[kid] = i
		}
	}
	return r
}

// is reports whether there is a node, of one of these kinds.
func (r rooted) is(node int, kinds ...uint8) bool {
	return node >= 0 && node < len(r.Nodes) && slices.Contains(kinds, r.Nodes[node].Kind)
}

// isExpr reports whether there is an expression.
func (r rooted) isExpr(node int) bool {
	return node >= 0 && node < len(r.Nodes) && r.Nodes[node].Kind <= api.ArrayNode
}

// declares reports whether there is a declaration.
func (r rooted) declares(node int) bool {
	return r.is(node, api.DefItem, api.ParamNode, api.BindNode, api.InitNode, api.SpanNode)
}

// first returns the first node of those that are a node, or below it.
func (r rooted) first(node int) int {
	for len(r.Nodes[node].Kids) > 0 {
		node = r.Nodes[node].Kids[0]
	}
	return node
}

// within reports whether a node is another one, or below it.
func (r rooted) within(node, top int) bool { return node <= top && node >= r.first(top) }

// item returns the item in which a node is.
func (r rooted) item(node int) int {
	for r.parents[node] >= 0 {
		node = r.parents[node]
	}
	return node
}

// kidWith returns the kid of a node in which a node below it is.
func (r rooted) kidWith(top, node int) int {
	for r.parents[node] != top {
		node = r.parents[node]
	}
	return node
}

// only returns those of some nodes that are of a kind.
func (r rooted) only(kind uint8, nodes ...int) []int {
	return slices.DeleteFunc(slices.Clone(nodes), func(node int) bool { return !r.is(node, kind) })
}

// called returns the first one of some nodes that has this Text, or -1.
func (r rooted) called(text string, nodes ...int) int {
	i := slices.IndexFunc(nodes, func(node int) bool { return r.Nodes[node].Text == text })
	if i < 0 {
		return -1
	}
	return nodes[i]
}

// ascending returns numbers in their order, each of them once.
func ascending(l ...int) []int {
	l = slices.Clone(l)
	slices.Sort(l)
	return slices.Compact(l)
}
