package names

import (
	"slices"

	"floodgate/api"
)

// late reports whether a NameNode is late for a SetNode above it. What is met last on the way up is what the way down leads into first.
func (r rooted) late(node, set int) bool {
	late := false
	for up := r.parents[node]; up != set; up = r.parents[up] {
		switch {
		case r.is(up, api.ConsNode, api.CellNode, api.SpanNode): // bounds have no names in them
			late = true
		case r.is(up, api.LoopNode) && !r.is(node, api.InitNode):
			late = false
		}
		node = up
	}
	return late
}

// needed returns for each SetNode the SetNodes of its block or loop that it needs at once.
func (r resolved) needed() [][]int {
	needs := make([][]int, len(r.Nodes))
	for node, of := range r.of {
		if !r.is(of, api.BindNode) {
			continue
		}
		needed := r.parents[of]
		set := r.kidWith(r.parents[needed], node)
		if r.is(set, api.SetNode) && !r.late(node, set) {
			needs[set] = append(needs[set], needed)
		}
	}
	for set, l := range needs {
		needs[set] = ascending(l...)
	}
	return needs
}

// needsItself reports whether a SetNode needs itself at once, directly or over others.
func (r resolved) needsItself(set int) bool {
	living := map[int]bool{}
	spread(living, func(node int) []int { return r.needs[node] }, r.needs[set]...)
	return living[set]
}

// order returns the SetNodes of a block or a loop in the order in which they can be done.
func (r resolved) order(node int) []int {
	left := r.only(api.SetNode, r.Nodes[node].Kids...)
	isLeft := func(set int) bool { return slices.Contains(left, set) }
	var done []int
	for len(left) > 0 {
		// No SetNode needs itself, so one of them needs none of the others.
		i := slices.IndexFunc(left, func(set int) bool { return !slices.ContainsFunc(r.needs[set], isLeft) })
		done = append(done, left[i])
		left = slices.Delete(left, i, i+1)
	}
	return done
}
