package region

import (
	"iter"

	"floodgate/api"
)

// sized is a part with a size.
type sized struct {
	api.Part
	size int
}

// value returns the value of a bound, which can be below 0.
func (s sized) value(b api.Bound) int {
	if b.Size {
		return s.size - b.N
	}
	return b.N
}

// cells yields the cells of the part, ascending.
func (s sized) cells() iter.Seq[int] {
	return func(yield func(cell int) bool) {
		for cell := s.value(s.From); cell <= s.value(s.To); cell += s.Step {
			if !yield(cell) {
				return
			}
		}
	}
}

// has reports whether a cell is one of the part.
func (s sized) has(cell int) bool {
	from := s.value(s.From)
	return cell >= from && cell <= s.value(s.To) && (cell-from)%s.Step == 0
}

// idle reports whether a part has no cell, whatever the size.
func idle(p api.Part) bool {
	for size := range api.MaxArray + 1 {
		for range (sized{p, size}).cells() {
			return false
		}
	}
	return true
}
