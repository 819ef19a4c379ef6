package block

import (
	"slices"

	"floodgate/api"
)

// first is the name of the function with which all begins.
const first = "main"

// program is a list of blocks whose numbers are known by their names.
type program struct {
	blocks  []api.Block
	numbers map[string]int // of several blocks with one name that of the first one
}

func programOf(l []api.Block) program {
	p := program{blocks: l, numbers: map[string]int{}}
	for block, b := range l {
		if _, taken := p.numbers[b.Name]; !taken {
			p.numbers[b.Name] = block
		}
	}
	return p
}

// checked returns the program that a list of blocks is, or its error.
func checked(l []api.Block) (program, api.Errno) {
	p := programOf(l)
	return p, p.check()
}

// told returns what is told of a block of a program.
func told[T any](l []api.Block, block int, tell func(p program, block int) T) (T, api.Errno) {
	var none T
	p, e := checked(l)
	if e != api.OK {
		return none, e
	}
	if block < 0 || block >= len(l) {
		return none, api.ErrNone
	}
	return tell(p, block), api.OK
}

// check returns the error of a list of blocks.
func (p program) check() api.Errno {
	switch {
	case !p.isWithin():
		return api.ErrLimit
	case !all(p.blocks, p.isBlock):
		return api.ErrForm
	case len(p.numbers) < len(p.blocks):
		return api.ErrTwice
	}
	main, known := p.numbers[first]
	if !known || isLoop(p.blocks[main]) {
		return api.ErrState
	}
	return api.OK
}

// isWithin reports whether there is not more of anything than there may be.
func (p program) isWithin() bool {
	nodes := 0
	for _, b := range p.blocks {
		nodes += len(b.Nodes)
	}
	return len(p.blocks) <= api.MaxBlocks && nodes <= api.MaxGraph && all(p.blocks, func(b api.Block) bool {
		return max(b.Params, len(b.Nexts), len(b.Exits)) <= api.MaxPorts
	})
}

// isBlock reports whether a block is one of a program.
func (p program) isBlock(b api.Block) bool {
	for number, n := range b.Nodes {
		if !p.isNode(n) || !p.has(b, number, n.Ins) {
			return false
		}
	}
	return isName(b.Name) && b.Params > 0 && (!isLoop(b) || len(b.Nexts) == b.Params) && p.has(b, len(b.Nodes), slices.Concat(b.Nexts, b.Exits))
}

// has reports whether all of some outputs are parameters of a block, or outputs of its first so many nodes.
func (p program) has(b api.Block, nodes int, l []api.From) bool {
	return all(l, func(f api.From) bool {
		if f.Node == -1 {
			return f.Out >= 0 && f.Out < b.Params
		}
		return f.Node >= 0 && f.Node < nodes && f.Out >= 0 && f.Out < p.outs(b.Nodes[f.Node])
	})
}

func isName(s string) bool {
	if len(s) == 0 || len(s) > api.MaxNamed || !isLetter(s[0]) {
		return false
	}
	return all([]byte(s), func(c byte) bool { return isLetter(c) || c >= '0' && c <= '9' || c == '.' })
}

func isLetter(c byte) bool { return c >= 'a' && c <= 'z' }

func isLoop(b api.Block) bool { return len(b.Nexts) > 0 }

// copied returns a block in new memory.
func copied(b api.Block) api.Block {
	b.Nodes, b.Nexts, b.Exits = slices.Clone(b.Nodes), slices.Clone(b.Nexts), slices.Clone(b.Exits)
	for i, n := range b.Nodes {
		b.Nodes[i].Ins = slices.Clone(n.Ins)
	}
	return b
}

// all reports whether all elements of a list are so.
func all[T any](l []T, so func(T) bool) bool {
	return !slices.ContainsFunc(l, func(x T) bool { return !so(x) })
}
