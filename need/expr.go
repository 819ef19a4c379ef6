package need

import (
	"floodgate/api"
	"floodgate/region"
)

// declare gives a declaration its value in a context.
func (c *context) declare(node int, l *later) { c.values[place{node, 0}] = l }

// value returns a value of an expression in a context. It is needed.
func (r *run) value(c *context, node, at int) api.Value {
	if r.full {
		return hole()
	}
	return r.later(c, place{node, at}).need()
}

// later returns a value of an expression in a context, as it is worked out when it is needed.
func (r *run) later(c *context, p place) *later {
	l := c.values[p]
	if l == nil {
		l = &later{work: func() api.Value { return r.work(c, p.node, p.at) }}
		c.values[p] = l
	}
	return l
}

// given returns a value of a block or a give.
func (r *run) given(c *context, node, at int) api.Value {
	p := r.giver(node, at)
	return r.value(c, p.node, p.at)
}

// work works a value of an expression out.
func (r *run) work(c *context, node, at int) api.Value {
	n := r.Nodes[node]
	switch n.Kind {
	case api.NumNode:
		return integer(n.N)
	case api.BoolNode:
		return truth(n.N)
	case api.NilNode:
		return empty()
	case api.NameNode:
		return r.named(c, node)
	case api.ConsNode:
		return r.put([]*later{r.cell(c, n.Kids[0]), r.cell(c, n.Kids[1])})
	case api.ArrayNode:
		return r.array(c, node)
	case api.AndNode:
		return r.and(c, n)
	case api.OrNode:
		return r.or(c, n)
	case api.IfNode:
		return r.choose(c, n, at)
	case api.CallNode:
		d := r.called(c, node)
		return r.given(d, r.block(d.home), at)
	case api.LoopNode:
		return r.loop(c, node, at)
	}
	return r.strict(c, n)
}

// named returns the value of what a NameNode means.
func (r *run) named(c *context, name int) api.Value {
	node := r.of[name]
	l := r.declared(c, node)
	kind := r.Nodes[node].Kind
	if l.state == working && (kind == api.BindNode || kind == api.InitNode) {
		r.knots[name] = true
	}
	return l.need()
}

// declared returns the value of a declaration that is in sight in a context.
func (r *run) declared(c *context, node int) *later {
	for c.home != r.homes[node] {
		c = c.around
	}
	p, ok := r.binds[node]
	if !ok { // it was declared when the context began
		p = place{node, 0}
	}
	return r.later(c, p)
}

// cell returns what an expression is worth that is worked out when a cell is needed.
func (r *run) cell(c *context, node int) *later {
	return &later{work: func() api.Value { return r.value(c, node, 0) }}
}

// strict returns the value of an expression that needs all of its kids.
func (r *run) strict(c *context, n api.TreeNode) api.Value {
	var kids []api.Value
	for _, kid := range n.Kids {
		kids = append(kids, r.value(c, kid, 0))
	}
	switch n.Kind {
	case api.HeadNode:
		return r.read(kids[0], integer(0))
	case api.TailNode:
		return r.read(kids[0], integer(1))
	case api.ReadNode:
		return r.read(kids[0], kids[1])
	case api.SizeNode:
		return r.size(kids[0])
	case api.EmptyNode:
		return isEmpty(kids[0])
	}
	return operate(kids, r.operations[n.Kind]...)
}

// read returns the value of a cell, which is needed.
func (r *run) read(v, index api.Value) api.Value {
	if v == hole() || index == hole() {
		return hole()
	}
	gave := asked(api.CellRead, v, index, r.cells(v))
	if gave != hole() {
		return gave
	}
	return r.structs[v.N][index.N].need()
}

func (r *run) size(v api.Value) api.Value {
	if v == hole() {
		return v
	}
	return asked(api.CellSize, v, empty(), r.cells(v))
}

// cells returns how many cells a structure has, 0 of what is none.
func (r *run) cells(v api.Value) int {
	if v.Kind != api.VRef {
		return 0
	}
	return len(r.structs[v.N])
}

// array makes an array, if its size is right.
func (r *run) array(c *context, node int) api.Value {
	n := r.Nodes[node]
	size := r.value(c, n.Kids[0], 0)
	if size.Kind != api.VInt {
		return wrong(size)
	}
	if size.N < n.N || size.N > api.MaxArray {
		return bad(api.BadSize)
	}
	fill, _ := region.Fill(r.parts[node], size.N)
	var cells []*later
	for i, part := range fill {
		cells = append(cells, r.defined(c, n.Kids[1+part], i))
	}
	return r.put(cells)
}

// defined returns a cell of an array that is defined by a CellNode, or by a SpanNode, in a context of its own.
func (r *run) defined(c *context, node, cell int) *later {
	n := r.Nodes[node]
	expr := n.Kids[len(n.Kids)-1]
	if n.Kind == api.CellNode {
		return r.cell(c, expr)
	}
	return &later{work: func() api.Value {
		d := r.begin(node, c)
		d.declare(node, known(integer(cell)))
		return r.value(d, expr, 0)
	}}
}
