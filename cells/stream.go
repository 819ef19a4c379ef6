package cells

import "floodgate/api"

// put puts a stream into a memory, and returns its value.
func put(m *api.Memory, stream []int, end api.Value) api.Value {
	if len(stream) == 0 {
		return end
	}
	first := len(m.Structs)
	for i, n := range stream {
		rest := end
		if i+1 < len(stream) {
			rest = ref(first + i + 1)
		}
		m.Structs = append(m.Structs, api.Struct{Cells: []api.Value{integer(n), rest}})
	}
	return ref(first)
}

// taken returns the integers of a stream, and what is behind them.
func taken(cells [][]api.Value, rest api.Value) ([]int, api.Value) {
	var l []int
	for len(l) < api.MaxStructs && rest.Kind == api.VRef {
		pair := cells[rest.N]
		if len(pair) != 2 || pair[0].Kind != api.VInt {
			break
		}
		l = append(l, pair[0].N)
		rest = pair[1]
	}
	return l, rest
}
