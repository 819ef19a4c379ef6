package need

import (
	"floodgate/api"
	"floodgate/names"
	"floodgate/region"
)

// place is a node, and which one of its values.
type place struct{ node, at int }

// looked is a tree that is looked at: a sound one of which is known what its names mean, and where its nodes belong to.
type looked struct {
	api.Tree
	of         []int              // what each node means, or -1
	homes      []int              // for each node the DefItem, LoopNode or SpanNode in whose contexts it has values
	binds      map[int]place      // what the BindNodes have the values of
	nexts      map[int]int        // the exprs of the NextNodes that mean InitNodes
	parts      map[int][]api.Part // those of the ArrayNodes
	operations map[uint8][]string // what is done with the kids of nodes, by their kinds
}

func look(t api.Tree) looked {
	n, _, _ := names.Resolve(t)
	l := looked{Tree: t, of: n.Of, homes: make([]int, len(t.Nodes)), binds: map[int]place{}, nexts: map[int]int{}, parts: map[int][]api.Part{}, operations: operations()}
	for _, item := range t.Items {
		l.settle(item, item)
	}
	for node := range t.Nodes {
		l.note(node)
	}
	return l
}

// operations are those of the nodes that do nothing but these with their kids, one after the other.
func operations() map[uint8][]string {
	m := map[uint8][]string{}
	put := func(kind uint8, names ...string) { m[kind] = names }
	put(api.AddNode, "add")
	put(api.SubNode, "sub")
	put(api.MulNode, "mul")
	put(api.DivNode, "div")
	put(api.ModNode, "mod")
	put(api.NegNode, "neg")
	put(api.NotNode, "not")
	put(api.EqNode, "eq")
	put(api.LtNode, "lt")
	put(api.LeNode, "le")
	put(api.NeNode, "eq", "not")
	put(api.GtNode, "le", "not")
	put(api.GeNode, "lt", "not")
	return m
}

// settle tells a node, and all below it, where they belong to: what is in a loop or a span to this, but the exprs of InitNodes to what is around the loop.
func (l looked) settle(node, home int) {
	n := l.Nodes[node]
	inner := home
	switch n.Kind {
	case api.LoopNode:
		inner = node
	case api.SpanNode: // it is a declaration, too
		home, inner = node, node
	}
	l.homes[node] = home
	for _, kid := range n.Kids {
		if init := l.Nodes[kid]; init.Kind == api.InitNode {
			l.homes[kid] = node
			l.settle(init.Kids[0], home)
		} else {
			l.settle(kid, inner)
		}
	}
}

// note notes what a node says of others, or of its cells.
func (l looked) note(node int) {
	n := l.Nodes[node]
	switch n.Kind {
	case api.SetNode:
		for at, bind := range n.Kids[:n.N] {
			l.binds[bind] = place{n.Kids[n.N], at}
		}
	case api.NextNode:
		l.nexts[l.of[node]] = n.Kids[0]
	case api.ArrayNode:
		l.parts[node], _, _ = region.Parts(l.Tree, node)
	}
}

// giver returns which expression a block, a give, or an expression itself gives the value from that is asked for.
func (l looked) giver(node, at int) place {
	n := l.Nodes[node]
	exprs := n.Kids
	switch n.Kind {
	case api.BlockNode:
		exprs = n.Kids[n.N:]
	case api.GiveNode:
	default:
		return place{node, at}
	}
	if len(exprs) == 1 {
		return place{exprs[0], at}
	}
	return place{exprs[at], 0}
}

// inside reports whether a node is below another one.
func (l looked) inside(node, top int) bool {
	first := top
	for len(l.Nodes[first].Kids) > 0 {
		first = l.Nodes[first].Kids[0]
	}
	return node >= first && node < top
}

// isExpr reports whether a node is an expression.
func (l looked) isExpr(node int) bool { return l.Nodes[node].Kind <= api.ArrayNode }

// results returns how many values an item has.
func (l looked) results(item int) int {
	n := l.Nodes[item]
	return len(n.Kids) - n.N - 1
}

// block returns the block of an item.
func (l looked) block(item int) int {
	n := l.Nodes[item]
	return n.Kids[len(n.Kids)-1]
}
