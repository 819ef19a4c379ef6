package cells

import (
	"slices"

	"floodgate/api"
)

// work is a memory of its own to which things are done.
type work struct {
	api.Memory
	waiting int        // how many reads wait, so that they need not be counted again for each one
	told    []api.Told // in the order in which it happened
}

func newWork(m api.Memory) *work { return &work{Memory: copied(m), waiting: waiting(m)} }

// do does something, if it has no error, and returns what it gives.
func (w *work) do(op api.CellOp) (api.Value, api.Errno) {
	if !w.takes(op) {
		return api.Value{}, api.ErrArg
	}
	switch op.Kind {
	case api.CellAlloc:
		return w.alloc(op.V)
	case api.CellWrite:
		return w.write(op)
	case api.CellRead:
		return w.read(op)
	}
	return w.size(op.V), api.OK
}

// takes reports whether something can be done at all: whether there is such a kind, and its values are known ones of the memory.
func (w *work) takes(op api.CellOp) bool {
	known := func(l ...api.Value) bool {
		return has(w.Memory, l...) && !slices.ContainsFunc(l, isHole)
	}
	switch op.Kind {
	case api.CellAlloc, api.CellSize:
		return known(op.V)
	case api.CellRead:
		return known(op.V, op.Index)
	case api.CellWrite:
		return known(op.V, op.Index, op.Value)
	}
	return false
}

func (w *work) alloc(size api.Value) (api.Value, api.Errno) {
	switch {
	case size.Kind != api.VInt:
		return wrong(api.BadKind, size), api.OK
	case size.N < 0 || size.N > api.MaxArray:
		return bad(api.BadSize), api.OK
	case len(w.Structs) == api.MaxStructs:
		return api.Value{}, api.ErrLimit
	}
	w.Structs = append(w.Structs, api.Struct{Cells: make([]api.Value, size.N)})
	return ref(len(w.Structs) - 1), api.OK
}

func (w *work) write(op api.CellOp) (api.Value, api.Errno) {
	cell := w.cell(op.V, op.Index)
	if cell == nil {
		return empty(), api.OK
	}
	if !isHole(*cell) {
		return api.Value{}, api.ErrTwice
	}
	*cell = op.Value
	w.tell(&w.Structs[op.V.N], op.Index.N)
	return empty(), api.OK
}

// tell tells the reads of a cell that wait its value.
func (w *work) tell(s *api.Struct, cell int) {
	before := len(s.Wait)
	for _, r := range s.Wait {
		if r.Cell == cell {
			w.told = append(w.told, api.Told{Reader: r.Reader, V: s.Cells[cell]})
		}
	}
	s.Wait = slices.DeleteFunc(s.Wait, func(r api.Read) bool { return r.Cell == cell })
	w.waiting -= before - len(s.Wait)
}

func (w *work) read(op api.CellOp) (api.Value, api.Errno) {
	cell := w.cell(op.V, op.Index)
	if cell == nil {
		return noCell(op.V, op.Index), api.OK
	}
	if !isHole(*cell) {
		return *cell, api.OK
	}
	if w.waiting == api.MaxReads {
		return api.Value{}, api.ErrLimit
	}
	s := &w.Structs[op.V.N]
	s.Wait = append(s.Wait, api.Read{Cell: op.Index.N, Reader: op.Reader})
	w.waiting++
	return api.Value{}, api.OK
}

func (w *work) size(v api.Value) api.Value {
	if v.Kind != api.VRef {
		return wrong(api.BadKind, v)
	}
	return integer(len(w.Structs[v.N].Cells))
}

// cell returns the cell with an index of a structure, nil if these are not such values, or there is no such cell.
func (w *work) cell(v, index api.Value) *api.Value {
	if v.Kind != api.VRef || index.Kind != api.VInt {
		return nil
	}
	cells := w.Structs[v.N].Cells
	if index.N < 0 || index.N >= len(cells) {
		return nil
	}
	return &cells[index.N]
}

// noCell returns what a read gives of values for which there is no cell.
func noCell(v, index api.Value) api.Value {
	if v.Kind == api.VNil || v.Kind == api.VRef && index.Kind == api.VInt {
		return wrong(api.BadIndex, v, index)
	}
	return wrong(api.BadKind, v, index)
}
