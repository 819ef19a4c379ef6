package types

import (
	"slices"

	"floodgate/api"
)

// operation is what all kids of a node must have, and what the node gives.
type operation struct{ asks, gives string }

// operations are those of the kinds whose nodes ask for one type that is always the same, or for nothing.
func operations() map[uint8]operation {
	m := map[uint8]operation{}
	put := func(asks, gives string, kinds ...uint8) {
		for _, kind := range kinds {
			m[kind] = operation{asks, gives}
		}
	}
	put("", intWord, api.NumNode)
	put("", boolWord, api.BoolNode)
	put(intWord, intWord, api.AddNode, api.SubNode, api.MulNode, api.DivNode, api.ModNode, api.NegNode)
	put(intWord, boolWord, api.LtNode, api.LeNode, api.GtNode, api.GeNode)
	put(boolWord, boolWord, api.AndNode, api.OrNode, api.NotNode)
	return m
}

// gives returns the types of a node by those of its kids, and whether these have what they must have.
func (f *finder) gives(node int) ([]string, bool) {
	n := f.Nodes[node]
	if op, ok := f.operations[n.Kind]; ok {
		return []string{op.gives}, f.all(op.asks, n.Kids...)
	}
	switch n.Kind {
	case api.NameNode:
		return f.declared(f.of[node]), true
	case api.ParamNode, api.BindNode, api.SpanNode:
		return f.declared(node), true
	case api.EqNode, api.NeNode:
		return []string{boolWord}, f.all(intWord, n.Kids...) || f.all(boolWord, n.Kids...)
	case api.ConsNode, api.NilNode, api.HeadNode, api.TailNode, api.EmptyNode:
		s, ok := f.stream(n)
		return []string{s}, ok
	case api.ReadNode, api.SizeNode, api.ArrayNode:
		s, ok := f.array(n)
		return []string{s}, ok
	case api.CallNode:
		params, results := f.sign(f.of[node])
		args, ok := f.single(n.Kids...)
		return results, ok && slices.Equal(args, params)
	case api.IfNode:
		types := f.found[n.Kids[1]]
		return types, f.all(boolWord, n.Kids[0]) && slices.Equal(types, f.found[n.Kids[2]])
	case api.LoopNode:
		return f.found[last(n)], f.all(boolWord, n.Kids[n.N])
	case api.InitNode:
		return f.single(n.Kids...)
	}
	return f.parts(node)
}

// parts returns the types of a part of a def, and whether its kids have what they must have.
func (f *finder) parts(node int) ([]string, bool) {
	n := f.Nodes[node]
	switch n.Kind {
	case api.BlockNode:
		return f.together(n.Kids[n.N:]...)
	case api.GiveNode:
		return f.together(n.Kids...)
	case api.SetNode:
		return nil, f.bind(node) && f.agrees(n)
	case api.NextNode:
		return nil, slices.Equal(f.found[n.Kids[0]], f.found[f.of[node]])
	case api.DefItem:
		_, results := f.sign(node)
		return nil, slices.Equal(results, f.found[last(n)])
	}
	return nil, true
}

// stream returns the type of an expression that makes streams, or asks them, and whether its kids have what they must have.
func (f *finder) stream(n api.TreeNode) (string, bool) {
	kid := n.Kids[0]
	switch n.Kind {
	case api.NilNode:
		return joined(streamWord, f.written(kid)), true
	case api.ConsNode:
		head, ok := f.one(kid)
		s := joined(streamWord, head)
		return s, ok && f.all(s, n.Kids[1])
	}
	s, _ := f.one(kid)
	word, part := split(s)
	switch n.Kind {
	case api.HeadNode:
		s = part
	case api.EmptyNode:
		s = boolWord
	}
	return s, word == streamWord
}

// array returns the type of an expression that makes an array, or asks one, and whether its kids have what they must have.
func (f *finder) array(n api.TreeNode) (string, bool) {
	if n.Kind == api.ArrayNode {
		exprs := f.cellExprs(n)
		s, ok := f.one(exprs[0])
		return joined(arrayWord, s), ok && f.all(intWord, n.Kids[0]) && f.all(s, exprs...)
	}
	s, _ := f.one(n.Kids[0])
	word, part := split(s)
	if n.Kind == api.SizeNode {
		part = intWord
	}
	return part, word == arrayWord && f.all(intWord, n.Kids[1:]...)
}

// cellExprs returns the exprs of the CellNodes and SpanNodes of an ArrayNode.
func (f *finder) cellExprs(n api.TreeNode) []int {
	var exprs []int
	for _, part := range n.Kids[1:] {
		exprs = append(exprs, last(f.Nodes[part]))
	}
	return exprs
}

// agrees reports whether the BindNodes of a SetNode have the types of its expr.
func (f *finder) agrees(n api.TreeNode) bool {
	types, ok := f.single(n.Kids[:n.N]...)
	return ok && slices.Equal(types, f.found[n.Kids[n.N]])
}

// all reports whether nodes have just this type each.
func (f *finder) all(want string, nodes ...int) bool {
	for types := range f.each(nodes...) {
		if len(types) != 1 || types[0] != want {
			return false
		}
	}
	return true
}

// one returns the type of a node, and whether it has just one.
func (f *finder) one(node int) (string, bool) {
	types := f.found[node]
	if len(types) != 1 {
		return "", false
	}
	return types[0], true
}

// single returns the types of nodes, and whether they have just one each.
func (f *finder) single(nodes ...int) ([]string, bool) {
	var l []string
	for types := range f.each(nodes...) {
		if len(types) != 1 {
			return nil, false
		}
		l = append(l, types...)
	}
	return l, true
}

// together returns the types of the exprs of a block or a give. If they are several each of them must have just one.
func (f *finder) together(exprs ...int) ([]string, bool) {
	if len(exprs) == 1 {
		return f.found[exprs[0]], true
	}
	return f.single(exprs...)
}

// last returns the last kid of a node.
func last(n api.TreeNode) int { return n.Kids[len(n.Kids)-1] }
