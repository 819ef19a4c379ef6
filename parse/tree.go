package parse

import (
	"iter"
	"slices"

	"floodgate/api"
)

// kids yields the nodes of a list of kids.
func kids(t api.Tree, list []int) iter.Seq[api.TreeNode] {
	return func(yield func(api.TreeNode) bool) {
		for _, kid := range list {
			if !yield(t.Nodes[kid]) {
				return
			}
		}
	}
}

// tooMany reports whether a tree has not its limits in nodes and items.
func tooMany(t api.Tree) bool { return len(t.Nodes) > api.MaxNodes || len(t.Items) > api.MaxDefs }

// tooDeep reports whether in a tree whose nodes stand in their order too many of them are one in the other.
func tooDeep(t api.Tree) bool {
	deep := make([]int, len(t.Nodes))
	for i, n := range t.Nodes {
		for _, kid := range n.Kids {
			deep[i] = max(deep[i], deep[kid])
		}
		deep[i]++
	}
	return slices.ContainsFunc(deep, func(n int) bool { return n > api.MaxDeep })
}

// first returns the first node of those that are a node, or below it.
func first(t api.Tree, node int) int {
	for len(t.Nodes[node].Kids) > 0 {
		node = t.Nodes[node].Kids[0]
	}
	return node
}

// around returns the first node from a number on that has another node, not behind this number, in it; -1 if there is none. Since the nodes below a node stand directly before it, it is enough to know where they begin.
func around(t api.Tree, node, from int) int {
	for up := from; up < len(t.Nodes); up++ {
		if first(t, up) <= node {
			return up
		}
	}
	return -1
}

// moved returns a tree of nodes and items, in new memory, whose numbers are greater by so many.
func moved(nodes []api.TreeNode, items []int, by int) api.Tree {
	t := api.Tree{Items: movedNumbers(items, by)}
	for _, n := range nodes {
		n.Kids = movedNumbers(n.Kids, by)
		t.Nodes = append(t.Nodes, n)
	}
	return t
}

func movedNumbers(l []int, by int) []int {
	var m []int
	for _, n := range l {
		m = append(m, n+by)
	}
	return m
}

// alike reports whether two nodes are equal but for the places of their tokens.
func alike(a, b api.TreeNode) bool {
	return a.Kind == b.Kind && a.Text == b.Text && a.N == b.N && slices.Equal(a.Kids, b.Kids)
}
