package region_test

import (
	"slices"

	"floodgate/api"
)

// Cells that parts could have, and more, lie between these two.
const (
	lowest  = -220
	highest = 320
)

// wantCells are the cells that are so many steps from the bound from which a part goes, as far as they are not too great.
func wantCells(p api.Part, size int) []int {
	value := func(b api.Bound) int {
		if b.Size {
			return size - b.N
		}
		return b.N
	}
	var l []int
	for steps := range highest {
		if cell := value(p.From) + steps*p.Step; cell <= value(p.To) {
			l = append(l, cell)
		}
	}
	return l
}

// owners are the numbers of the parts that have a cell.
func owners(all []api.Part, size, cell int) []int {
	var l []int
	for i, p := range all {
		if slices.Contains(wantCells(p, size), cell) {
			l = append(l, i)
		}
	}
	return l
}

// wantMisses asks for all cells that there could be, one behind the other.
func wantMisses(all []api.Part, size int) []api.Miss {
	often := make([]int, highest-lowest)
	for _, p := range all {
		for _, cell := range wantCells(p, size) {
			often[cell-lowest]++
		}
	}
	var l []api.Miss
	for i, n := range often {
		cell := i + lowest
		inside := cell >= 0 && cell < size
		if !inside && n > 0 {
			l = append(l, miss(size, cell, api.CellOutside))
		}
		if inside && n == 0 {
			l = append(l, miss(size, cell, api.CellMissing))
		}
		if inside && n > 1 {
			l = append(l, miss(size, cell, api.CellTwice))
		}
	}
	return l
}

// wantFirst looks for the first miss from a size on.
func wantFirst(all []api.Part, least int) (api.Miss, api.Errno) {
	for size := least; size <= api.MaxArray; size++ {
		if l := wantMisses(all, size); len(l) > 0 {
			return l[0], api.OK
		}
	}
	return api.Miss{}, api.ErrNone
}

func wantSizes(all []api.Part) []int {
	var l []int
	for size := 0; size <= api.MaxArray; size++ {
		if len(wantMisses(all, size)) == 0 {
			l = append(l, size)
		}
	}
	return l
}

// wantLeast is the first size behind the last one that parts are not right for.
func wantLeast(sizes []int) (int, api.Errno) {
	for least := 0; least <= api.MaxArray; least++ {
		if behind := slices.Index(sizes, least); behind >= 0 && len(sizes)-behind == api.MaxArray+1-least {
			return least, api.OK
		}
	}
	return 0, api.ErrNone
}

func wantSlim(all []api.Part) []api.Part {
	var l []api.Part
	for _, p := range all {
		for size := 0; size <= api.MaxArray; size++ {
			if len(wantCells(p, size)) > 0 {
				l = append(l, p)
				break
			}
		}
	}
	return l
}
