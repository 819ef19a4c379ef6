package block_test

import (
	"fmt"
	"maps"
	"math/rand"
	"slices"

	"floodgate/api"
)

// grower makes a block whose flow is right, node by node: it keeps its outputs by their guards.
type grower struct {
	r      *rand.Rand
	l      []api.Block // the names, parameters and how many Exits there will be
	b      *api.Block
	groups []group
}

// group are the outputs with a guard.
type group struct {
	s       set
	outputs []api.From
}

// grown is a program of a few blocks, one of which is main, all of whose flow is right.
func grown(r *rand.Rand, most int) []api.Block {
	l := signatures(r)
	for i := range l {
		g := &grower{r: r, l: l, b: &l[i]}
		for n := range l[i].Params {
			g.put(set{}, param(n))
		}
		g.block(r.Intn(most + 1))
	}
	return l
}

// signatures are blocks with names and parameters; they have as many Exits, and as many Nexts, as they will have.
func signatures(r *rand.Rand) []api.Block {
	names := []string{"main", "f", "g.0", "h.1.x", "main.0"}
	r.Shuffle(len(names), func(i, k int) { names[i], names[k] = names[k], names[i] })
	names = append(slices.DeleteFunc(names[:2+r.Intn(4)-1], func(s string) bool { return s == "main" }), "main")
	r.Shuffle(len(names), func(i, k int) { names[i], names[k] = names[k], names[i] })
	var l []api.Block
	for _, name := range names {
		b := api.Block{Name: name, Params: 1 + r.Intn(3), Exits: make([]api.From, r.Intn(4))}
		if name != "main" && r.Intn(2) == 0 {
			b.Nexts = make([]api.From, b.Params)
		}
		l = append(l, b)
	}
	return l
}

// put puts an output to the others with its guard.
func (g *grower) put(s set, f api.From) {
	for i := range g.groups {
		if own := &g.groups[i]; own.s.same(s) {
			own.outputs = append(own.outputs, f)
			return
		}
	}
	g.groups = append(g.groups, group{s: s, outputs: []api.From{f}})
}

// with returns the outputs with a guard.
func (g *grower) with(s set) []api.From {
	for _, own := range g.groups {
		if own.s.same(s) {
			return own.outputs
		}
	}
	return nil
}

func (g *grower) pick(l []api.From) api.From { return l[g.r.Intn(len(l))] }

// add adds a node whose inputs have a guard (of an NMerge: the one that is left).
func (g *grower) add(s set, op uint8, name string, n int, ins ...api.From) {
	at := len(g.b.Nodes)
	g.b.Nodes = append(g.b.Nodes, api.Node{Op: op, Name: name, N: n, Ins: ins})
	for out := range wantOuts(g.l, g.b.Nodes[at]) {
		own := s
		if op == api.NSwitch {
			own = maps.Clone(s)
			own[api.Cond{From: ins[0], Arm: out == 0}] = true
		}
		g.put(own, api.From{Node: at, Out: out})
	}
}

// block grows a block that has its parameters.
func (g *grower) block(nodes int) {
	for range nodes {
		g.grow()
	}
	open := g.with(set{})
	if len(g.b.Nexts) == 0 {
		for i := range g.b.Exits {
			g.b.Exits[i] = g.pick(open)
		}
		return
	}
	c := g.pick(open)
	g.add(set{}, api.NSwitch, "", 0, c, g.pick(open))
	for i := range g.b.Nexts {
		g.b.Nexts[i] = g.pick(g.with(set{{From: c, Arm: true}: true}))
	}
	for i := range g.b.Exits {
		g.b.Exits[i] = g.pick(g.with(set{{From: c}: true}))
	}
}

// grow adds some node.
func (g *grower) grow() {
	own := g.groups[g.r.Intn(len(g.groups))]
	ins := func(many int) []api.From {
		var l []api.From
		for range many {
			l = append(l, g.pick(own.outputs))
		}
		return l
	}
	switch g.r.Intn(6) {
	case 0, 1:
		g.add(own.s, api.NSwitch, "", 0, ins(2)...)
	case 2, 3:
		g.merge()
	case 4:
		i := g.r.Intn(len(g.l))
		op := uint8(api.NCall)
		if len(g.l[i].Nexts) > 0 {
			op = api.NLoop
		}
		g.add(own.s, op, g.l[i].Name, 0, ins(g.l[i].Params)...)
	case 5:
		word := []string{"int", "bool", "nil", "prim", "gate", "alloc", "store", "fetch", "size", "isnil"}[g.r.Intn(10)]
		k := ops()[word]
		switch word {
		case "prim":
			name := []string{"add", "sub", "mul", "div", "mod", "lt", "le", "eq", "neg", "not"}[g.r.Intn(10)]
			g.add(own.s, k.op, name, 0, ins(operands()[name])...)
		case "bool":
			g.add(own.s, k.op, "", g.r.Intn(2), ins(1)...)
		case "int":
			g.add(own.s, k.op, "", g.r.Intn(2*api.MaxNumber+1)-api.MaxNumber, ins(1)...)
		default:
			g.add(own.s, k.op, "", 0, ins(k.ins)...)
		}
	}
}

// merge adds an NMerge, if there are outputs for it.
func (g *grower) merge() {
	var pairs [][2]group
	var rests []set
	for _, a := range g.groups {
		for _, b := range g.groups {
			for c := range a.s {
				no := api.Cond{From: c.From}
				if rest := a.s.less(c); c.Arm && b.s[no] && rest.same(b.s.less(no)) {
					pairs, rests = append(pairs, [2]group{a, b}), append(rests, rest)
				}
			}
		}
	}
	if len(pairs) > 0 {
		i := g.r.Intn(len(pairs))
		g.add(rests[i], api.NMerge, "", 0, g.pick(pairs[i][0].outputs), g.pick(pairs[i][1].outputs))
	}
}

// noisy is a program in which inputs come from anywhere before, and whose flow is mostly not right.
func noisy(r *rand.Rand, most int) []api.Block {
	l := grown(r, most)
	for i := range l {
		for k := range l[i].Nodes {
			for j := range l[i].Nodes[k].Ins {
				if r.Intn(12) == 0 {
					l[i].Nodes[k].Ins[j] = anywhere(r, l, l[i], k)
				}
			}
		}
		for _, list := range [][]api.From{l[i].Nexts, l[i].Exits} {
			for k := range list {
				if r.Intn(12) == 0 {
					list[k] = anywhere(r, l, l[i], len(l[i].Nodes))
				}
			}
		}
	}
	return l
}

// anywhere is some output of a block's parameters and first so many nodes.
func anywhere(r *rand.Rand, l []api.Block, b api.Block, nodes int) api.From {
	var all []api.From
	for f := range wantAll(l, b, nodes) {
		all = append(all, f)
	}
	slices.SortFunc(all, func(a, b api.From) int { return 100*(a.Node-b.Node) + a.Out - b.Out })
	return all[r.Intn(len(all))]
}

// spoil makes something of blocks another thing, which is mostly wrong.
func spoil(r *rand.Rand, l []api.Block) []api.Block {
	if len(l) == 0 {
		return append(l, api.Block{})
	}
	number := []int{-1, 0, 1, 2, 3, 12, 13, -2, least, greatest, api.MaxNumber + 1, -api.MaxNumber - 1}[r.Intn(12)]
	name := []string{"", "main", "f", "g.0", "A", ".", "0", "a a", "add", "abcdefghijklmnopqrstuvwx", "abcdefghijklmnopqrstuvwxy"}[r.Intn(11)]
	b := &l[r.Intn(len(l))]
	from := api.From{Node: r.Intn(9) - 2, Out: number}
	if len(b.Nodes) > 0 && r.Intn(2) == 0 {
		n := &b.Nodes[r.Intn(len(b.Nodes))]
		switch r.Intn(6) {
		case 0:
			n.Op = uint8(r.Intn(17))
		case 1:
			n.Name = name
		case 2:
			n.N = number
		case 3:
			n.Ins = append(n.Ins, from)
		case 4:
			n.Ins = n.Ins[:len(n.Ins)-1]
		case 5:
			n.Ins[r.Intn(len(n.Ins))] = from
		}
		if len(n.Ins) == 0 {
			n.Ins = append(n.Ins, param(0))
		}
		return l
	}
	switch r.Intn(9) {
	case 0:
		b.Name = name
	case 1:
		b.Params = number
	case 2:
		b.Nexts = append(b.Nexts, from)
	case 3:
		b.Exits = append(b.Exits, from)
	case 4:
		b.Nexts = nil
	case 5:
		b.Nexts = make([]api.From, r.Intn(14))
	case 6:
		return append(l, *b)
	case 7:
		return slices.Delete(l, 0, 1)
	case 8:
		return append(l, api.Block{Name: fmt.Sprint("b", r.Intn(9)), Params: 1})
	}
	return l
}
