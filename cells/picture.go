package cells

import (
	"slices"

	"floodgate/api"
)

// drawable reports whether there can be a picture of values in a memory.
func drawable(m api.Memory, l []api.Value) bool {
	return len(l) <= api.MaxArray && has(m, l...)
}

// drawing gives structures new numbers, in the order in which they are met.
type drawing struct {
	numbers map[int]int
	met     []int
}

// drawn returns the picture of values in a memory.
func drawn(m api.Memory, l []api.Value) api.Picture {
	d := drawing{numbers: map[int]int{}}
	p := api.Picture{Values: d.renumbered(l)}
	for i := 0; i < len(d.met); i++ { // more are met meanwhile
		p.Cells = append(p.Cells, d.renumbered(m.Structs[d.met[i]].Cells))
	}
	return p
}

// renumbered returns values with the new numbers of structures.
func (d *drawing) renumbered(l []api.Value) []api.Value {
	l = slices.Clone(l)
	for i, v := range l {
		if v.Kind == api.VRef {
			l[i] = ref(d.number(v.N))
		}
	}
	return l
}

// number returns the new number of a structure.
func (d *drawing) number(structure int) int {
	number, ok := d.numbers[structure]
	if !ok {
		number = len(d.met)
		d.numbers[structure] = number
		d.met = append(d.met, structure)
	}
	return number
}

// same reports whether two pictures are equal.
func same(a, b api.Picture) bool {
	return slices.Equal(a.Values, b.Values) && slices.EqualFunc(a.Cells, b.Cells, slices.Equal[[]api.Value])
}

// pairs are the structures of two pictures that were met together.
type pairs struct {
	upper map[int]int // of a structure of the lower picture the other one
	lower map[int]int // of a structure of the upper picture the other one
	met   []int       // those of the lower picture, in the order in which they were met
}

// below reports whether a picture is below another one.
func below(a, b api.Picture) bool {
	p := pairs{upper: map[int]int{}, lower: map[int]int{}}
	if !p.list(a.Values, b.Values) {
		return false
	}
	for i := 0; i < len(p.met); i++ { // more are met meanwhile
		structure := p.met[i]
		if !p.list(a.Cells[structure], b.Cells[p.upper[structure]]) {
			return false
		}
	}
	return true
}

// list reports whether lists are as long as each other, and their values can be pairs.
func (p *pairs) list(l, m []api.Value) bool {
	if len(l) != len(m) {
		return false
	}
	for i, v := range l {
		if !p.value(v, m[i]) {
			return false
		}
	}
	return true
}

// value reports whether two values can be a pair, as far as can be said without the cells of their structures.
func (p *pairs) value(v, w api.Value) bool {
	switch {
	case isHole(v):
		return true
	case v.Kind == api.VRef && w.Kind == api.VRef:
		return p.meet(v.N, w.N)
	}
	return v == w
}

// meet reports whether neither of two structures was met together with another one.
func (p *pairs) meet(lower, upper int) bool {
	other, met := p.upper[lower]
	_, taken := p.lower[upper]
	if met || taken {
		return met && other == upper
	}
	p.upper[lower], p.lower[upper] = upper, lower
	p.met = append(p.met, lower)
	return true
}
