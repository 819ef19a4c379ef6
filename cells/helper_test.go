package cells_test

import (
	"math/rand"
	"slices"
	"testing"

	"floodgate/api"
	"floodgate/cells"
)

const (
	least    = -1 << 63
	greatest = 1<<63 - 1
)

func num(n int) api.Value { return api.Value{Kind: api.VInt, N: n} }

func truth(n int) api.Value { return api.Value{Kind: api.VBool, N: n} }

func ref(n int) api.Value { return api.Value{Kind: api.VRef, N: n} }

func bad(n int) api.Value { return api.Value{Kind: api.VBad, N: n} }

func hole() api.Value { return api.Value{} }

func none() api.Value { return api.Value{Kind: api.VNil} }

func values(v ...api.Value) []api.Value { return v }

func lists(l ...[]api.Value) [][]api.Value { return l }

func picture(l []api.Value, c ...[]api.Value) api.Picture { return api.Picture{Values: l, Cells: c} }

// memory is a memory of cells in which nothing waits.
func memory(c ...[]api.Value) api.Memory {
	var m api.Memory
	for _, l := range c {
		m.Structs = append(m.Structs, api.Struct{Cells: slices.Clone(l)})
	}
	return m
}

// waits are reads of a cell by readers.
func waits(cell int, readers ...int) []api.Read {
	var l []api.Read
	for _, reader := range readers {
		l = append(l, api.Read{Cell: cell, Reader: reader})
	}
	return l
}

func alloc(v api.Value) api.CellOp { return api.CellOp{Kind: api.CellAlloc, V: v} }

func size(v api.Value) api.CellOp { return api.CellOp{Kind: api.CellSize, V: v} }

func write(s, index, v api.Value) api.CellOp {
	return api.CellOp{Kind: api.CellWrite, V: s, Index: index, Value: v}
}

func read(s, index api.Value, reader int) api.CellOp {
	return api.CellOp{Kind: api.CellRead, V: s, Index: index, Reader: reader}
}

func ops(l ...api.CellOp) []api.CellOp { return l }

func told(reader int, v api.Value) api.Told { return api.Told{Reader: reader, V: v} }

func sameMemory(a, b api.Memory) bool {
	return slices.EqualFunc(a.Structs, b.Structs, func(x, y api.Struct) bool {
		return slices.Equal(x.Cells, y.Cells) && slices.Equal(x.Wait, y.Wait)
	})
}

func samePicture(a, b api.Picture) bool {
	return slices.Equal(a.Values, b.Values) && slices.EqualFunc(a.Cells, b.Cells, slices.Equal[[]api.Value])
}

// notValues are values that are none, both ends of each kind among them.
func notValues() []api.Value {
	var l []api.Value
	put := func(kind uint8, numbers ...int) {
		for _, n := range numbers {
			l = append(l, api.Value{Kind: kind, N: n})
		}
	}
	put(api.VHole, -1, 1, least, greatest)
	put(api.VInt, -api.MaxNumber-1, api.MaxNumber+1, least, greatest)
	put(api.VBool, -1, 2, least, greatest)
	put(api.VNil, -1, 1, least, greatest)
	put(api.VRef, -1, least)
	put(api.VBad, 0, 6, -1, least, greatest)
	put(api.VCtx, 0, 1, -1)
	put(api.VCtx+1, 0, 1)
	put(255, 0)
	return l
}

// allValues are values of all kinds, both ends of each among them, but no VRefs.
func allValues() []api.Value {
	return values(hole(), num(-api.MaxNumber), num(-1), num(0), num(1), num(api.MaxNumber), truth(0), truth(1), none(), bad(1), bad(2), bad(3), bad(4), bad(5))
}

// anyValue is a value in a memory of so many structures, often a hole or a VRef.
func anyValue(r *rand.Rand, structs int) api.Value {
	if structs > 0 && r.Intn(3) == 0 {
		return ref(r.Intn(structs))
	}
	if r.Intn(3) == 0 {
		return hole()
	}
	all := allValues()
	return all[r.Intn(len(all))]
}

// anyMemory is a memory in which some reads wait.
func anyMemory(r *rand.Rand, most int) api.Memory {
	m := api.Memory{Structs: make([]api.Struct, r.Intn(most+1))}
	for i := range m.Structs {
		s := &m.Structs[i]
		for range []int{0, 1, 2, 2, 3, 5}[r.Intn(6)] {
			s.Cells = append(s.Cells, anyValue(r, len(m.Structs)))
		}
		for range r.Intn(5) {
			if cell := r.Intn(6); cell < len(s.Cells) && s.Cells[cell] == hole() {
				s.Wait = append(s.Wait, api.Read{Cell: cell, Reader: r.Intn(9) - 4})
			}
		}
	}
	return m
}

// anyPicture is a picture of some values in such a memory.
func anyPicture(t *testing.T, r *rand.Rand) api.Picture {
	t.Helper()
	m := anyMemory(r, 6)
	var l []api.Value
	for range r.Intn(4) {
		l = append(l, anyValue(r, len(m.Structs)))
	}
	p, e := cells.Draw(m, l)
	if e != api.OK {
		t.Fatal(m, l, e)
	}
	return p
}

// anyOp is something that can mostly be done to a memory.
func anyOp(r *rand.Rand, m api.Memory) api.CellOp {
	structs := len(m.Structs)
	if r.Intn(8) == 0 {
		structs += r.Intn(2)
		return api.CellOp{Kind: uint8(r.Intn(6)), V: anyValue(r, structs), Index: anyValue(r, structs), Value: anyValue(r, structs), Reader: r.Intn(9)}
	}
	if structs == 0 || r.Intn(5) == 0 {
		return alloc(num(r.Intn(4)))
	}
	s := r.Intn(structs)
	index := num(r.Intn(len(m.Structs[s].Cells)+2) - 1)
	if r.Intn(2) == 0 {
		return read(ref(s), index, int(r.Uint64()))
	}
	if r.Intn(4) == 0 {
		return size(ref(s))
	}
	return write(ref(s), index, anyValue(r, structs))
}

// chain is the cells of so many structures, each of which has only the next one, the last one a hole.
func chain(many int) [][]api.Value {
	var l [][]api.Value
	for i := range many {
		l = append(l, values(ref(i+1)))
	}
	if many > 0 {
		l[many-1] = values(hole())
	}
	return l
}
