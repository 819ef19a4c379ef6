package region

import (
	"cmp"
	"slices"

	"floodgate/api"
)

// counted returns how often parts have each cell: those that some part has, and those from 0 to the size less 1.
func counted(l []api.Part, size int) map[int]int {
	often := make(map[int]int, size)
	for cell := range size {
		often[cell] = 0
	}
	for _, p := range l {
		for cell := range (sized{p, size}).cells() {
			often[cell]++
		}
	}
	return often
}

// kindOf returns what is wrong with a cell that parts have so often; 0 if nothing is.
func kindOf(cell, often, size int) uint8 {
	switch {
	case cell < 0 || cell >= size:
		return api.CellOutside
	case often == 0:
		return api.CellMissing
	case often > 1:
		return api.CellTwice
	}
	return 0
}

// misses returns all misses of parts with a size, ordered by their cells.
func misses(l []api.Part, size int) []api.Miss {
	var all []api.Miss
	for cell, often := range counted(l, size) {
		if kind := kindOf(cell, often, size); kind != 0 {
			all = append(all, api.Miss{Size: size, Cell: cell, Kind: kind})
		}
	}
	slices.SortFunc(all, func(a, b api.Miss) int { return cmp.Compare(a.Cell, b.Cell) })
	return all
}

// right reports whether parts have no misses with a size.
func right(l []api.Part, size int) bool { return len(misses(l, size)) == 0 }

// first returns the first miss of parts with the smallest size from least on that they are not right for, if there is one.
func first(l []api.Part, least int) (m api.Miss, wrong bool) {
	for size := range api.MaxArray + 1 {
		if size < least {
			continue
		}
		if all := misses(l, size); len(all) > 0 {
			return all[0], true
		}
	}
	return api.Miss{}, false
}

// who returns the number of the first part that has a cell, or -1.
func who(l []api.Part, size, cell int) int {
	return slices.IndexFunc(l, func(p api.Part) bool { return sized{p, size}.has(cell) })
}
