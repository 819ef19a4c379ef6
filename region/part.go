package region

import (
	"slices"

	"floodgate/api"
)

// valid reports whether parts are valid.
func valid(l ...api.Part) bool {
	wrong := func(p api.Part) bool {
		return p.Step < 1 || p.Step > api.MaxStep || !isSize(p.From.N) || !isSize(p.To.N)
	}
	return len(l) <= api.MaxRuns && !slices.ContainsFunc(l, wrong)
}

// isSize reports whether an array can have such a size.
func isSize(n int) bool { return n >= 0 && n <= api.MaxArray }

// checkSized returns the error of parts, or of a size.
func checkSized(size int, l ...api.Part) api.Errno {
	if !valid(l...) {
		return api.ErrArg
	}
	if !isSize(size) {
		return api.ErrRange
	}
	return api.OK
}

// partsOf returns the parts of an ArrayNode.
func partsOf(t api.Tree, node int) []api.Part {
	var l []api.Part
	for _, kid := range t.Nodes[node].Kids[1:] { // behind the size
		l = append(l, partOf(t, t.Nodes[kid]))
	}
	return l
}

// partOf returns the part of a CellNode or a SpanNode.
func partOf(t api.Tree, n api.TreeNode) api.Part {
	from := boundOf(t.Nodes[n.Kids[0]])
	if n.Kind == api.CellNode {
		return api.Part{From: from, To: from, Step: 1}
	}
	return api.Part{From: from, To: boundOf(t.Nodes[n.Kids[1]]), Step: n.N}
}

// boundOf returns the bound of a BoundNode.
func boundOf(n api.TreeNode) api.Bound { return api.Bound{Size: n.Text == "#", N: n.N} }
