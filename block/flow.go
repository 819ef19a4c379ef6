package block

import (
	"slices"

	"floodgate/api"
)

// flow is the guards of a block's outputs, node by node, as far as the nodes have guards.
//
// A switch has the guard of the output that is its condition, and sets this one behind it. So the conditions before one in a guard are the guard of its output, and this output is one of a node behind theirs: guards ascend, no output is in one twice, and those that share a condition share all that is before it.
type flow [][]api.Guard

// flow returns the flow of a block.
func (p program) flow(block int) flow {
	var f flow
	for _, n := range p.blocks[block].Nodes {
		g, has := f.node(n)
		if !has {
			return f
		}
		f = append(f, p.given(n, g))
	}
	return f
}

// isOf reports whether all nodes of a block have guards in its flow.
func (f flow) isOf(b api.Block) bool { return len(f) == len(b.Nodes) }

// of returns the guard of an output.
func (f flow) of(o api.From) api.Guard {
	if o.Node < 0 {
		return nil
	}
	return f[o.Node][o.Out]
}

// under reports whether all of some outputs have a guard.
func (f flow) under(g api.Guard, l []api.From) bool {
	return all(l, func(o api.From) bool { return slices.Equal(f.of(o), g) })
}

// node returns the guard of the node behind those of the flow, and whether it has one.
func (f flow) node(n api.Node) (api.Guard, bool) {
	g := f.of(n.Ins[0])
	if n.Op == api.NMerge {
		return merged(g, f.of(n.Ins[1]))
	}
	return g, f.under(g, n.Ins)
}

// merged returns the guard of a node whose inputs have two guards, of which one comes, and whether it has one: the last conditions are on the same output, and all others are that output's guard.
func merged(yes, no api.Guard) (api.Guard, bool) {
	if len(yes) == 0 || len(no) == 0 {
		return nil, false
	}
	last := len(yes) - 1
	c := no[len(no)-1]
	return yes[:last], !c.Arm && yes[last] == api.Cond{From: c.From, Arm: true}
}

// given returns the guards of the outputs of a node with a guard.
func (p program) given(n api.Node, g api.Guard) []api.Guard {
	var l []api.Guard
	for out := range p.outs(n) {
		own := slices.Clone(g) // no two guards share memory
		if n.Op == api.NSwitch {
			own = append(own, api.Cond{From: n.Ins[0], Arm: out == 0})
		}
		l = append(l, own)
	}
	return l
}

// isRight reports whether the flow of a block is right.
func (p program) isRight(block int) bool {
	b, f := p.blocks[block], p.flow(block)
	if !f.isOf(b) {
		return false
	}
	if !isLoop(b) {
		return f.under(nil, b.Exits)
	}
	next := f.of(b.Nexts[0])
	if len(next) != 1 || !next[0].Arm {
		return false
	}
	return f.under(next, b.Nexts) && f.under(api.Guard{{From: next[0].From}}, b.Exits)
}
