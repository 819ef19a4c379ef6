package need

import (
	"floodgate/api"
	"floodgate/cells"
)

// hole is the value of what is not known.
func hole() api.Value { return api.Value{} }

func integer(n int) api.Value { return api.Value{Kind: api.VInt, N: n} }

func truth(n int) api.Value { return api.Value{Kind: api.VBool, N: n} }

func empty() api.Value { return api.Value{Kind: api.VNil} }

func ref(n int) api.Value { return api.Value{Kind: api.VRef, N: n} }

func bad(n int) api.Value { return api.Value{Kind: api.VBad, N: n} }

// wrong returns what comes of a value of a kind that cannot be used: holes and faults stay what they are.
func wrong(v api.Value) api.Value {
	if v == hole() || v.Kind == api.VBad {
		return v
	}
	return bad(api.BadKind)
}

// isEmpty returns whether a stream is empty.
func isEmpty(v api.Value) api.Value {
	switch v.Kind {
	case api.VNil:
		return truth(1)
	case api.VRef:
		return truth(0)
	}
	return wrong(v)
}

// operate does operations one after the other: the first one with some operands, each other one with what the one before gave.
func operate(operands []api.Value, names ...string) api.Value {
	for _, name := range names {
		v, _ := cells.Prim(name, operands)
		operands = []api.Value{v}
	}
	return operands[0]
}

// asked returns what CellRead or CellSize gives of a structure with so many cells, or of what is none. The cells are holes, since it is not known yet what is in them: so a read of a cell that is there gives VHole.
func asked(kind uint8, v, index api.Value, size int) api.Value {
	m := api.Memory{Structs: []api.Struct{{Cells: make([]api.Value, size)}}}
	_, gave, _, _ := cells.Do(m, api.CellOp{Kind: kind, V: alone(v), Index: alone(index)})
	return gave
}

// alone returns a value in a memory of one structure.
func alone(v api.Value) api.Value {
	if v.Kind == api.VRef {
		return ref(0)
	}
	return v
}
