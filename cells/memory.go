package cells

import (
	"slices"

	"floodgate/api"
)

// isMemory reports whether a memory is one.
func isMemory(m api.Memory) bool {
	if len(m.Structs) > api.MaxStructs {
		return false
	}
	return waiting(m) <= api.MaxReads && all(m.Structs, func(s api.Struct) bool { return isStruct(m, s) })
}

// isStruct reports whether a structure can be one of a memory.
func isStruct(m api.Memory, s api.Struct) bool {
	waits := func(r api.Read) bool {
		return r.Cell >= 0 && r.Cell < len(s.Cells) && isHole(s.Cells[r.Cell])
	}
	return len(s.Cells) <= api.MaxArray && has(m, s.Cells...) && all(s.Wait, waits)
}

// has reports whether all of some values are values of a memory.
func has(m api.Memory, l ...api.Value) bool {
	return all(l, func(v api.Value) bool {
		return isValue(v) && (v.Kind != api.VRef || v.N < len(m.Structs))
	})
}

// waiting returns how many reads wait in a memory.
func waiting(m api.Memory) int {
	reads := 0
	for _, s := range m.Structs {
		reads += len(s.Wait)
	}
	return reads
}

// memoryOf returns a memory that shares its cells with a picture, and in which nothing waits.
func memoryOf(cells [][]api.Value) api.Memory {
	var m api.Memory
	for _, l := range cells {
		m.Structs = append(m.Structs, api.Struct{Cells: l})
	}
	return m
}

// copied returns a memory in new memory.
func copied(m api.Memory) api.Memory {
	var c api.Memory
	for _, s := range m.Structs {
		c.Structs = append(c.Structs, api.Struct{Cells: slices.Clone(s.Cells), Wait: slices.Clone(s.Wait)})
	}
	return c
}
