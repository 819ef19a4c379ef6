package types

import "floodgate/api"

// builder is a tree that is made of the nodes of another one, with other types of its BindNodes.
type builder struct {
	api.Tree
	from    api.Tree
	numbers map[int]int                   // the new numbers of nodes
	typed   func(bind int) []api.TreeNode // the nodes of the type that a BindNode gets
}

// build returns the tree in which BindNodes have other types.
func build(from api.Tree, typed func(bind int) []api.TreeNode) *builder {
	b := &builder{from: from, numbers: map[int]int{}, typed: typed}
	for _, item := range from.Items {
		b.take(item)
		b.Items = append(b.Items, b.numbers[item])
	}
	return b
}

// take adds a node of the other tree, with all below it but the type of a BindNode.
func (b *builder) take(node int) {
	n := b.from.Nodes[node]
	var kids []int
	if n.Kind == api.BindNode {
		kids = b.put(b.typed(node)...)
	} else {
		for _, kid := range n.Kids {
			b.take(kid)
			kids = append(kids, b.numbers[kid])
		}
	}
	n.Kids = kids
	b.numbers[node] = len(b.Nodes)
	b.Nodes = append(b.Nodes, n)
}

// put adds the nodes of a type, each with the one before as its kid, and returns the last one, if there is one.
func (b *builder) put(nodes ...api.TreeNode) []int {
	var kids []int
	for _, n := range nodes {
		n.Kids = kids
		kids = []int{len(b.Nodes)}
		b.Nodes = append(b.Nodes, n)
	}
	return kids
}
