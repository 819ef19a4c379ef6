package names

import "floodgate/api"

// sight returns the declarations that are in sight at an expression, from the inside out.
func (r rooted) sight(node int) []int {
	var l []int
	for up := r.parents[node]; up >= 0; up = r.parents[up] {
		l = append(l, r.shown(up, node)...)
		node = up
	}
	return l
}

// shown returns the declarations that a node brings in sight at the expressions in one of its kids.
func (r rooted) shown(up, kid int) []int {
	n := r.Nodes[up]
	switch n.Kind {
	case api.DefItem:
		return r.only(api.ParamNode, n.Kids...)
	case api.BlockNode:
		return r.binds(n.Kids...)
	case api.LoopNode:
		return r.shownInLoop(up, kid)
	case api.SpanNode: // its bounds have no expressions in them
		return []int{up}
	}
	return nil
}

func (r rooted) shownInLoop(loop, kid int) []int {
	inits := r.inits(loop)
	switch r.Nodes[kid].Kind {
	case api.InitNode:
		return nil
	case api.SetNode, api.NextNode:
		return append(inits, r.binds(r.Nodes[loop].Kids...)...)
	}
	return inits
}

// inits returns the InitNodes of a loop.
func (r rooted) inits(loop int) []int { return r.only(api.InitNode, r.Nodes[loop].Kids...) }

// binds returns the BindNodes of those of some nodes that are SetNodes.
func (r rooted) binds(nodes ...int) []int {
	var l []int
	for _, set := range r.only(api.SetNode, nodes...) {
		l = append(l, r.only(api.BindNode, r.Nodes[set].Kids...)...)
	}
	return l
}

// shouldMean reports whether a node is one that means something.
func (r rooted) shouldMean(node int) bool {
	return r.is(node, api.NameNode, api.CallNode, api.NextNode)
}

// meant returns what a node means; -1 if it is nothing.
func (r rooted) meant(node int) int {
	n := r.Nodes[node]
	switch n.Kind {
	case api.NameNode:
		return r.called(n.Text, r.sight(node)...)
	case api.CallNode:
		return r.called(n.Text, r.Items...)
	case api.NextNode:
		return r.called(n.Text, r.inits(r.parents[node])...)
	}
	return -1
}

// twice reports whether an earlier node has the Text that a node must have alone.
func (r rooted) twice(node int) bool {
	realm, ok := r.realm(node)
	if !ok {
		return false
	}
	for earlier := range node {
		if r.Nodes[earlier].Text != r.Nodes[node].Text {
			continue
		}
		if other, ok := r.realm(earlier); ok && other == realm {
			return true
		}
	}
	return false
}

// realm returns in which node a declaration, or a NextNode among the NextNodes, must have its Text alone: its item or its loop, -1 of a DefItem for the whole tree. No other nodes have a realm.
func (r rooted) realm(node int) (int, bool) {
	switch {
	case r.is(node, api.DefItem):
		return -1, true
	case r.is(node, api.NextNode):
		return r.parents[node], true
	case r.declares(node):
		return r.item(node), true
	}
	return 0, false
}
