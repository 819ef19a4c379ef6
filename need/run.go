package need

import (
	"maps"
	"slices"

	"floodgate/api"
	"floodgate/cells"
)

// context is an execution of an item, of a turn of a loop, or of a cell.
type context struct {
	home   int              // its DefItem, LoopNode or SpanNode
	around *context         // nil of an item
	values map[place]*later // of its declarations, and of expressions that were needed
	calls  map[int]*context // those of the CallNodes in it
	turns  map[int][]*context
}

// run is a tree that is worked out.
type run struct {
	looked
	contexts []*context
	structs  [][]*later // the cells of structures
	knots    map[int]bool
	full     bool // there are more contexts or structures than there may be: nothing counts any more
	picture  api.Picture
}

func newRun(t api.Tree) *run { return &run{looked: look(t), knots: map[int]bool{}} }

// begin begins a context.
func (r *run) begin(home int, around *context) *context {
	c := &context{home: home, around: around, values: map[place]*later{}, calls: map[int]*context{}, turns: map[int][]*context{}}
	r.contexts = append(r.contexts, c)
	r.full = r.full || len(r.contexts) > api.MaxContexts
	return c
}

// put makes a structure.
func (r *run) put(cells []*later) api.Value {
	r.structs = append(r.structs, cells)
	r.full = r.full || len(r.structs) > api.MaxStructs
	return ref(len(r.structs) - 1)
}

// take makes the structures of a memory.
func (r *run) take(m api.Memory) {
	for _, s := range m.Structs {
		var cells []*later
		for _, v := range s.Cells {
			cells = append(cells, known(v))
		}
		r.put(cells)
	}
}

// draw works an item out, with values of its params, and draws the picture of its own values.
func (r *run) draw(item int, params []api.Value) api.Errno {
	c := r.begin(item, nil)
	for i, v := range params {
		c.declare(r.Nodes[item].Kids[i], known(v))
	}
	var values []api.Value
	for at := range r.results(item) {
		values = append(values, r.given(c, r.block(item), at))
	}
	r.fill(values)
	if r.full {
		return api.ErrLimit
	}
	r.picture, _ = cells.Draw(r.memory(), values)
	return api.OK
}

// fill needs all cells that are met from some values on, breadth first.
func (r *run) fill(values []api.Value) {
	met := map[int]bool{}
	var all []int
	meet := func(v api.Value) {
		if v.Kind == api.VRef && !met[v.N] {
			met[v.N] = true
			all = append(all, v.N)
		}
	}
	for _, v := range values {
		meet(v)
	}
	for i := 0; i < len(all); i++ { // more are met meanwhile
		for _, cell := range r.structs[all[i]] {
			meet(cell.need())
		}
	}
}

// memory returns all structures, with the cells that are known.
func (r *run) memory() api.Memory {
	var m api.Memory
	for _, cells := range r.structs {
		var s api.Struct
		for _, cell := range cells {
			s.Cells = append(s.Cells, cell.v)
		}
		m.Structs = append(m.Structs, s)
	}
	return m
}

// times returns for each node in how many contexts something of it was worked out.
func (r *run) times() []int {
	times := make([]int, len(r.Nodes))
	for _, c := range r.contexts {
		nodes := map[int]bool{}
		for p := range c.values {
			nodes[p.node] = r.isExpr(p.node)
		}
		for node, worked := range nodes {
			if worked {
				times[node]++
			}
		}
	}
	return times
}

// unused returns the SetNodes whose exprs were worked out in no context.
func (r *run) unused() []int {
	times := r.times()
	var l []int
	for node, n := range r.Nodes {
		if n.Kind == api.SetNode && times[n.Kids[n.N]] == 0 {
			l = append(l, node)
		}
	}
	return l
}

// tied returns the NameNodes that needed what was being worked out.
func (r *run) tied() []int { return slices.Sorted(maps.Keys(r.knots)) }
