package need_test

import (
	"fmt"
	"slices"
	"strconv"
	"strings"

	"floodgate/api"
	"floodgate/names"
	"floodgate/region"
)

// worth is a value of the oracle: that of a structure has its name.
type worth struct {
	kind uint8
	n    int
	s    string
}

// fact is something that has a value: an expression, in a context and in a place (v), an InitNode of a turn (i), a param of a call (p), a cell of a structure (c), what of an expression is blighted (b).
type fact struct {
	kind     byte
	s        string // the context, or the structure
	node, at int
	top      int // of what is blighted: where it begins
}

// scene is a context, by the way that leads to it.
type scene struct {
	home   int
	around string // of a turn or a cell the context around it, of a call the one that calls
	node   int    // the CallNode
	number int    // the turn, the cell
}

// oracle works a program out in no order: whatever is asked for is looked up in a table of what is known, and is looked at again whenever something that it asked for has become known. Nothing is ever being worked out; what is needed for itself stays unknown.
type oracle struct {
	api.Tree
	of, parents []int
	table       map[fact]worth
	asks        map[fact][]fact // what it needs, in this order, by what was known when it was looked at last
	asked       map[fact]map[fact]bool
	now         fact
	todo        []fact
	scenes      map[string]scene
	made        map[string][]fact // the cells of structures
	given       map[fact]worth    // cells that were there before, and params
	picture     api.Picture
	met         []fact // the values, and the cells that were met, in their order
	full        bool
}

// work works an item out, with values of its params in a memory.
func work(x api.Tree, item int, m api.Memory, params []api.Value) *oracle {
	n, _, _ := names.Resolve(x)
	o := &oracle{Tree: x, of: n.Of, parents: make([]int, len(x.Nodes)), table: map[fact]worth{}, asks: map[fact][]fact{}, asked: map[fact]map[fact]bool{}, scenes: map[string]scene{}, made: map[string][]fact{}, given: map[fact]worth{}}
	for i, n := range x.Nodes {
		for _, kid := range n.Kids {
			o.parents[kid] = i
		}
	}
	for i, s := range m.Structs {
		name := fmt.Sprint("in", i)
		o.made[name] = []fact{}
		for at, v := range s.Cells {
			o.made[name] = append(o.made[name], fact{kind: 'c', s: name, at: at})
			o.given[fact{kind: 'c', s: name, at: at}] = named(v)
		}
	}
	o.scenes["main"] = scene{home: item}
	for i, v := range params {
		o.given[fact{kind: 'p', s: "main", at: i}] = named(v)
	}
	top := x.Nodes[item]
	block := top.Kids[len(top.Kids)-1]
	for at := range len(top.Kids) - 1 - top.N {
		o.met = append(o.met, o.from("main", block, at))
	}
	o.draw(len(o.met))
	return o
}

func named(v api.Value) worth {
	if v.Kind == api.VRef {
		return worth{kind: v.Kind, s: fmt.Sprint("in", v.N)}
	}
	return worth{kind: v.Kind, n: v.N}
}

// draw draws the picture of the values that were met first.
func (o *oracle) draw(values int) {
	numbers := map[string]int{}
	var order []string
	number := func(f fact) api.Value {
		o.get(f)
		o.settle()
		v := o.table[f]
		if v.kind != api.VRef {
			return api.Value{Kind: v.kind, N: v.n}
		}
		if _, ok := numbers[v.s]; !ok {
			numbers[v.s] = len(order)
			order = append(order, v.s)
		}
		return api.Value{Kind: v.kind, N: numbers[v.s]}
	}
	for _, f := range o.met[:values] {
		o.picture.Values = append(o.picture.Values, number(f))
	}
	for i := 0; i < len(order) && !o.full; i++ {
		var cells []api.Value
		for _, f := range o.made[order[i]] {
			o.met = append(o.met, f)
			cells = append(cells, number(f))
		}
		o.picture.Cells = append(o.picture.Cells, cells)
	}
}

// settle looks at all that must be looked at, the last one first, until nothing changes.
func (o *oracle) settle() {
	for len(o.todo) > 0 && !o.full {
		f := o.todo[len(o.todo)-1]
		o.todo = o.todo[:len(o.todo)-1]
		o.now, o.asks[f] = f, nil
		v := o.look(f)
		o.now = fact{}
		if v != o.table[f] {
			o.table[f] = v
			for g := range o.asked[f] {
				o.todo = append(o.todo, g)
			}
		}
		o.full = len(o.scenes) > 400 || len(o.made) > 400
	}
}

// get returns what is known of a fact, which is asked for by what is looked at now.
func (o *oracle) get(f fact) worth {
	if _, ok := o.asked[f]; !ok {
		o.asked[f] = map[fact]bool{}
		o.todo = append(o.todo, f)
	}
	if o.now.kind != 0 {
		o.asked[f][o.now] = true
		o.asks[o.now] = append(o.asks[o.now], f)
	}
	return o.table[f]
}

// from is the fact that is a value of a block, a give or an expression.
func (o *oracle) from(s string, node, at int) fact {
	n := o.Nodes[node]
	exprs := n.Kids
	if n.Kind == api.BlockNode {
		exprs = exprs[n.N:]
	} else if n.Kind != api.GiveNode {
		return fact{kind: 'v', s: s, node: node, at: at}
	}
	if len(exprs) > 1 {
		return fact{kind: 'v', s: s, node: exprs[at]}
	}
	return fact{kind: 'v', s: s, node: exprs[0], at: at}
}

func (o *oracle) value(s string, node int) worth { return o.get(o.from(s, node, 0)) }

// home is the DefItem, LoopNode or SpanNode in which a node is.
func (o *oracle) home(node int) int {
	switch o.Nodes[node].Kind {
	case api.SpanNode, api.DefItem:
		return node
	case api.InitNode:
		return o.parents[node]
	}
	up := o.parents[node]
	for o.Nodes[up].Kind != api.DefItem {
		if k := o.Nodes[up].Kind; k == api.SpanNode || k == api.LoopNode && o.Nodes[node].Kind != api.InitNode {
			return up
		}
		node, up = up, o.parents[up]
	}
	return up
}

// declared is the fact that a declaration is, in a context in which it is in sight.
func (o *oracle) declared(s string, node int) fact {
	for o.scenes[s].home != o.home(node) {
		s = o.scenes[s].around
	}
	switch up := o.parents[node]; o.Nodes[node].Kind {
	case api.BindNode:
		n := o.Nodes[up]
		return fact{kind: 'v', s: s, node: n.Kids[n.N], at: slices.Index(n.Kids, node)}
	case api.InitNode:
		return fact{kind: 'i', s: s, node: node}
	case api.ParamNode:
		return fact{kind: 'p', s: s, at: slices.Index(o.Nodes[up].Kids, node)}
	}
	return fact{kind: 's', s: s}
}

// look works a fact out by what is known.
func (o *oracle) look(f fact) worth {
	c := o.scenes[f.s]
	if v, ok := o.given[f]; ok {
		return v
	}
	switch f.kind {
	case 'v':
		return o.expr(f)
	case 'b':
		return o.blight(f)
	case 's':
		return worth{kind: api.VInt, n: c.number}
	case 'p':
		return o.value(c.around, o.Nodes[c.node].Kids[f.at])
	case 'i':
		return o.get(o.init(f, c))
	}
	return o.cell(f)
}

// cell is what a cell is worth: the name of its structure is the way to the context that made it, and the node.
func (o *oracle) cell(f fact) worth {
	s, after, _ := strings.Cut(f.s, " ")
	maker, _ := strconv.Atoi(after)
	n := o.Nodes[maker]
	if n.Kind == api.ConsNode {
		return o.value(s, n.Kids[f.at])
	}
	size := len(o.made[f.s])
	parts, _, _ := region.Parts(o.Tree, maker)
	which, _ := region.Who(parts, size, f.at)
	node := n.Kids[1+which]
	expr := o.Nodes[node].Kids[len(o.Nodes[node].Kids)-1]
	if o.Nodes[node].Kind == api.CellNode {
		return o.value(s, expr)
	}
	d := fmt.Sprint(s, "/", node, "[", f.at, "]")
	o.scenes[d] = scene{home: node, around: s, number: f.at}
	return o.value(d, expr)
}

// init is the fact that an InitNode has its value from.
func (o *oracle) init(f fact, c scene) fact {
	if c.number == 0 {
		return o.from(c.around, o.Nodes[f.node].Kids[0], 0)
	}
	before := o.turn(c.around, c.home, c.number-1)
	for next, of := range o.of {
		if of == f.node && o.Nodes[next].Kind == api.NextNode {
			return o.from(before, o.Nodes[next].Kids[0], 0)
		}
	}
	return fact{kind: 'i', s: before, node: f.node}
}

func (o *oracle) turn(s string, loop, number int) string {
	return fmt.Sprint(s, "/", loop, "#", number)
}

func (o *oracle) expr(f fact) worth {
	n := o.Nodes[f.node]
	of := func(kid int) worth { return o.value(f.s, n.Kids[kid]) }
	switch n.Kind {
	case api.NumNode:
		return worth{kind: api.VInt, n: n.N}
	case api.BoolNode:
		return worth{kind: api.VBool, n: n.N}
	case api.NilNode:
		return worth{kind: api.VNil}
	case api.NameNode:
		return o.get(o.declared(f.s, o.of[f.node]))
	case api.ConsNode:
		return o.structure(f, 2)
	case api.ArrayNode:
		switch size := of(0); {
		case size.kind != api.VInt:
			return faulty(size)
		case size.n < n.N || size.n > 100:
			return worth{kind: api.VBad, n: api.BadSize}
		default:
			return o.structure(f, size.n)
		}
	case api.AndNode:
		return o.arms(f, of(0), func() worth { return of(1) }, func() worth { return worth{kind: api.VBool} }, -1)
	case api.OrNode:
		return o.arms(f, of(0), func() worth { return worth{kind: api.VBool, n: 1} }, func() worth { return of(1) }, n.Kids[1])
	case api.IfNode:
		return o.arms(f, of(0), func() worth { return o.get(o.from(f.s, n.Kids[1], f.at)) }, func() worth { return o.get(o.from(f.s, n.Kids[2], f.at)) }, n.Kids[2])
	case api.CallNode:
		d := fmt.Sprint(f.s, "/", f.node)
		item := o.of[f.node]
		o.scenes[d] = scene{home: item, around: f.s, node: f.node}
		return o.get(o.from(d, o.Nodes[item].Kids[len(o.Nodes[item].Kids)-1], f.at))
	case api.LoopNode:
		return o.loop(f, 0)
	case api.HeadNode:
		return o.read(of(0), worth{kind: api.VInt})
	case api.TailNode:
		return o.read(of(0), worth{kind: api.VInt, n: 1})
	case api.ReadNode:
		return o.read(of(0), of(1))
	case api.SizeNode:
		if v := of(0); v.kind != api.VRef {
			return faulty(v)
		} else {
			return worth{kind: api.VInt, n: len(o.made[v.s])}
		}
	case api.EmptyNode:
		if v := of(0); v.kind == api.VNil || v.kind == api.VRef {
			return is(v.kind == api.VNil)
		} else {
			return faulty(v)
		}
	}
	if len(n.Kids) == 1 {
		return arithmetic(n.Kind, of(0), of(0))
	}
	return arithmetic(n.Kind, of(0), of(1))
}

func (o *oracle) structure(f fact, size int) worth {
	s := fmt.Sprint(f.s, " ", f.node)
	if o.made[s] == nil {
		o.made[s] = []fact{}
		for at := range size {
			o.made[s] = append(o.made[s], fact{kind: 'c', s: s, at: at})
		}
	}
	return worth{kind: api.VRef, s: s}
}

// arms is what an if gives: top is what is blighted, -1 if it is a constant.
func (o *oracle) arms(f fact, condition worth, yes, no func() worth, top int) worth {
	switch {
	case condition.kind == api.VHole:
		return worth{}
	case condition == is(true):
		return yes()
	case condition == is(false):
		return no()
	case top < 0:
		return faulty(condition)
	}
	p := o.from(f.s, top, f.at)
	if o.get(fact{'b', f.s, p.node, p.at, top}) == (worth{}) {
		return worth{}
	}
	return faulty(condition)
}

func (o *oracle) loop(f fact, number int) worth {
	n := o.Nodes[f.node]
	d := o.turn(f.s, f.node, number)
	o.scenes[d] = scene{home: f.node, around: f.s, number: number}
	give := n.Kids[len(n.Kids)-1]
	inner := f
	inner.s = d
	return o.arms(inner, o.value(d, n.Kids[n.N]), func() worth {
		if o.full = o.full || len(o.scenes) > 400; o.full {
			return worth{}
		}
		return o.loop(f, number+1)
	}, func() worth { return o.get(o.from(d, give, f.at)) }, give)
}

func (o *oracle) read(v, index worth) worth {
	bad := func(w worth) bool { return w.kind == api.VBad }
	switch {
	case v == worth{} || index == worth{}:
		return worth{}
	case bad(v):
		return v
	case bad(index):
		return index
	case v.kind == api.VNil:
		return worth{kind: api.VBad, n: api.BadIndex}
	case v.kind != api.VRef || index.kind != api.VInt:
		return worth{kind: api.VBad, n: api.BadKind}
	case index.n < 0 || index.n >= len(o.made[v.s]):
		return worth{kind: api.VBad, n: api.BadIndex}
	}
	return o.get(o.made[v.s][index.n])
}

// blight is a hole, or something else.
func (o *oracle) blight(f fact) worth {
	n := o.Nodes[f.node]
	good := worth{kind: api.VBool}
	hole := func(node, at int) bool {
		p := o.from(f.s, node, at)
		return o.get(fact{'b', f.s, p.node, p.at, f.top}) == worth{}
	}
	holes := false
	switch n.Kind {
	case api.NumNode, api.BoolNode, api.NilNode, api.CallNode, api.ConsNode, api.LoopNode:
	case api.NameNode:
		d := o.of[f.node]
		up := d
		for o.Nodes[up].Kind != api.DefItem && up != f.top {
			up = o.parents[up]
		}
		if o.Nodes[d].Kind == api.BindNode && up == f.top {
			p := o.declared(f.s, d)
			holes = hole(p.node, p.at)
		} else {
			holes = o.get(o.declared(f.s, d)) == worth{}
		}
	case api.AndNode, api.ArrayNode:
		holes = hole(n.Kids[0], 0)
	case api.OrNode:
		holes = hole(n.Kids[0], 0) || hole(n.Kids[1], 0)
	case api.IfNode:
		holes = hole(n.Kids[0], 0) || hole(n.Kids[2], f.at)
	default:
		for _, kid := range n.Kids {
			if hole(kid, 0) {
				holes = true
			}
		}
	}
	if holes {
		return worth{}
	}
	return good
}

func is(yes bool) worth {
	if yes {
		return worth{kind: api.VBool, n: 1}
	}
	return worth{kind: api.VBool}
}

// faulty is what comes of a value that has not the right kind.
func faulty(v worth) worth {
	if v.kind == api.VHole || v.kind == api.VBad {
		return v
	}
	return worth{kind: api.VBad, n: api.BadKind}
}

// arithmetic is the result of an operation; both operands are the same if there is only one.
func arithmetic(kind uint8, a, b worth) worth {
	if a.kind == api.VHole || b.kind == api.VHole {
		return worth{}
	}
	if a.kind == api.VBad {
		return a
	}
	if b.kind == api.VBad {
		return b
	}
	same := kind == api.EqNode || kind == api.NeNode
	bools := same && a.kind == api.VBool && b.kind == api.VBool || kind == api.NotNode && a.kind == api.VBool
	if !bools && (a.kind != api.VInt || b.kind != api.VInt || kind == api.NotNode) {
		return worth{kind: api.VBad, n: api.BadKind}
	}
	n := 0
	switch kind {
	case api.EqNode, api.NeNode:
		return is((a.n == b.n) == (kind == api.EqNode))
	case api.NotNode:
		return is(a.n == 0)
	case api.LtNode, api.GeNode:
		return is((a.n < b.n) == (kind == api.LtNode))
	case api.LeNode, api.GtNode:
		return is((a.n <= b.n) == (kind == api.LeNode))
	case api.AddNode:
		n = a.n + b.n
	case api.SubNode:
		n = a.n - b.n
	case api.MulNode:
		n = a.n * b.n
	case api.NegNode:
		n = -a.n
	case api.DivNode, api.ModNode:
		if b.n == 0 {
			return worth{kind: api.VBad, n: api.BadZero}
		}
		n = a.n / b.n
		if kind == api.ModNode {
			n = a.n - n*b.n
		}
	}
	if n < -1000000000 || n > 1000000000 {
		return worth{kind: api.VBad, n: api.BadRange}
	}
	return worth{kind: api.VInt, n: n}
}

// times is in how many contexts something of each node was asked for.
func (o *oracle) times() []int {
	type spot struct {
		s    string
		node int
	}
	seen := map[spot]bool{}
	l := make([]int, len(o.Nodes))
	for f := range o.asked {
		if x := (spot{f.s, f.node}); f.kind == 'v' && !seen[x] {
			seen[x] = true
			l[f.node]++
		}
	}
	return l
}

// knots goes through all that was asked for, in the order of the needs, and tells the NameNodes that lead back to where it is.
func (o *oracle) knots() []int {
	const inside, left = 1, 2
	state := map[fact]int{}
	var l []int
	var walk func(f fact)
	walk = func(f fact) {
		if f.kind != 'b' { // what is blighted is not worked out: it is gone through as often as it is met
			if state[f] != 0 {
				return
			}
			state[f] = inside
		}
		for _, g := range o.asks[f] {
			ties := g.kind == 'i' || g.kind == 'v'
			if ties && state[g] == inside && f.kind != 'i' && o.Nodes[f.node].Kind == api.NameNode && f.kind != 'c' && f.kind != 'p' {
				l = append(l, f.node)
			}
			walk(g)
		}
		if f.kind != 'b' {
			state[f] = left
		}
	}
	for _, f := range o.met {
		walk(f)
	}
	slices.Sort(l)
	return slices.Compact(l)
}

// count is how many scenes and structures there are.
func (o *oracle) count() (contexts, structs int) { return len(o.scenes), len(o.made) }

func (o *oracle) unused() []int {
	times := o.times()
	var l []int
	for i, n := range o.Nodes {
		if n.Kind == api.SetNode && times[n.Kids[n.N]] == 0 {
			l = append(l, i)
		}
	}
	return l
}
