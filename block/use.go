package block

import "slices"

// uses returns how often the parameters, and the outputs of each node, of a block are named.
func (p program) uses(block int) [][]int {
	b := p.blocks[block]
	l := [][]int{make([]int, b.Params)}
	named := slices.Concat(b.Nexts, b.Exits)
	for _, n := range b.Nodes {
		l = append(l, make([]int, p.outs(n)))
		named = append(named, n.Ins...)
	}
	for _, f := range named {
		l[f.Node+1][f.Out]++
	}
	return l
}

// calls returns the blocks that a block calls, ascending.
func (p program) calls(block int) []int {
	var l []int
	for _, n := range p.blocks[block].Nodes {
		if isCall(n) {
			l = append(l, p.numbers[n.Name])
		}
	}
	slices.Sort(l)
	return slices.Compact(l)
}

// needs returns the blocks that a block needs, ascending.
func (p program) needs(block int) []int {
	l := p.calls(block)
	for i := 0; i < len(l); i++ { // more come behind meanwhile
		for _, called := range p.calls(l[i]) {
			if !slices.Contains(l, called) {
				l = append(l, called)
			}
		}
	}
	slices.Sort(l)
	return l
}
