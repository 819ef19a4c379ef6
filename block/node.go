package block

import (
	"floodgate/api"
	"floodgate/cells"
)

// shape is what all nodes with an Op have: its word in texts, and how many inputs and outputs.
type shape struct {
	word      string
	ins, outs int
}

// shapes are those of all Ops, but for how many inputs or outputs there are where the Name says so.
var shapes = [...]shape{
	api.NInt:    {"int", 1, 1},
	api.NBool:   {"bool", 1, 1},
	api.NNil:    {"nil", 1, 1},
	api.NPrim:   {word: "prim", outs: 1},
	api.NSwitch: {"switch", 2, 2},
	api.NMerge:  {"merge", 2, 1},
	api.NGate:   {"gate", 2, 1},
	api.NCall:   {word: "call"},
	api.NLoop:   {word: "loop"},
	api.NAlloc:  {"alloc", 1, 1},
	api.NStore:  {"store", 3, 0},
	api.NFetch:  {"fetch", 2, 1},
	api.NSize:   {"size", 1, 1},
	api.NIsNil:  {"isnil", 1, 1},
}

// shapeOf returns the shape of an Op, an empty one if there is no such Op.
func shapeOf(op uint8) shape {
	if int(op) >= len(shapes) {
		return shape{}
	}
	return shapes[op]
}

// opOf returns the Op with a word, 0 if there is none.
func opOf(word string) uint8 {
	for op, s := range shapes {
		if s.word == word {
			return uint8(op)
		}
	}
	return 0
}

func isCall(n api.Node) bool { return n.Op == api.NCall || n.Op == api.NLoop }

// called returns the block with a node's Name, an empty one if there is none.
func (p program) called(n api.Node) api.Block {
	block, known := p.numbers[n.Name]
	if !known {
		return api.Block{}
	}
	return p.blocks[block]
}

// outs returns how many outputs a node has.
func (p program) outs(n api.Node) int {
	if isCall(n) {
		return len(p.called(n).Exits)
	}
	return shapeOf(n.Op).outs
}

// ins returns how many inputs a node must have, 0 if there is no such Op, operation or block.
func (p program) ins(n api.Node) int {
	switch {
	case isCall(n):
		return p.called(n).Params
	case n.Op == api.NPrim:
		return cells.Operands(n.Name)
	}
	return shapeOf(n.Op).ins
}

// isNode reports whether a node is one of a program, wherever its inputs come from. Since there is no node without inputs, none can be asked for where its Op or its Name means nothing.
func (p program) isNode(n api.Node) bool {
	ins := p.ins(n)
	return ins > 0 && len(n.Ins) == ins && p.isNamed(n) && isNumbered(n)
}

// isNamed reports whether the Name of a node is such a one as its Op needs, or none. That of an NPrim is an operation's: it has operands.
func (p program) isNamed(n api.Node) bool {
	switch {
	case isCall(n):
		return isLoop(p.called(n)) == (n.Op == api.NLoop)
	case n.Op == api.NPrim:
		return true
	}
	return n.Name == ""
}

// isNumbered reports whether the N of a node is such a one as its Op needs, or none.
func isNumbered(n api.Node) bool {
	switch n.Op {
	case api.NInt:
		return n.N >= -api.MaxNumber && n.N <= api.MaxNumber
	case api.NBool:
		return n.N == 0 || n.N == 1
	}
	return n.N == 0
}
