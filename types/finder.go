package types

import (
	"iter"
	"slices"

	"floodgate/api"
	"floodgate/names"
)

// finder is a tree whose types are found.
type finder struct {
	api.Tree
	of         []int            // what each node means
	sets       map[int]int      // the SetNodes of BindNodes
	found      map[int][]string // the types of nodes that are done, and of BindNodes
	sought     map[int]bool     // the SetNodes of BindNodes that were needed before they were found
	words      map[uint8]string // of types, by the kinds of their nodes
	operations map[uint8]operation
	wrong      int // where something is wrong first
}

func newFinder(t api.Tree, of []int) *finder {
	f := &finder{Tree: t, of: of, sets: map[int]int{}, found: map[int][]string{}, sought: map[int]bool{}, words: map[uint8]string{}, operations: operations()}
	for word, kind := range typeKinds() {
		f.words[kind] = word
	}
	for set, n := range t.Nodes {
		if n.Kind == api.SetNode {
			for _, bind := range n.Kids[:n.N] {
				f.sets[bind] = set
			}
		}
	}
	return f
}

// infer finds the types of a tree, or returns its error, and the node that has it.
func infer(t api.Tree) (f *finder, node int, e api.Errno) {
	n, node, e := names.Resolve(t)
	if e != api.OK {
		return nil, node, e
	}
	f = newFinder(t, n.Of)
	if !f.find(0, len(t.Nodes)-1) {
		return nil, f.wrong, api.ErrType
	}
	return f, 0, api.OK
}

// find finds the types of those nodes from one to another one that are not done yet, in their order, until something is wrong.
func (f *finder) find(from, to int) bool {
	for node := from; node <= to; node++ {
		if _, done := f.found[node]; done {
			continue
		}
		if !f.prepare(node) || !f.do(node) {
			return false
		}
	}
	return true
}

// do finds the types of a node whose kids are done.
func (f *finder) do(node int) bool {
	types, ok := f.gives(node)
	if !ok || slices.ContainsFunc(types, tooDeep) {
		return f.fail(node)
	}
	f.found[node] = types
	return true
}

// fail remembers where something is wrong.
func (f *finder) fail(node int) bool {
	f.wrong = node
	return false
}

// prepare finds the type of the BindNode that a NameNode means, if this must still be done. Meanwhile the NameNode is not done: if what it needs leads back to it, it is met again.
func (f *finder) prepare(node int) bool {
	bind := f.of[node]
	if f.Nodes[node].Kind != api.NameNode || !f.isOpen(bind) {
		return true
	}
	set := f.sets[bind]
	if f.sought[set] {
		return f.fail(node)
	}
	f.sought[set] = true
	n := f.Nodes[set]
	if !f.find(n.Kids[n.N-1]+1, n.Kids[n.N]) { // behind the last BindNode the expr begins
		return false
	}
	return f.bind(set) || f.fail(set)
}

// isOpen reports whether a node is a BindNode whose type must still be found.
func (f *finder) isOpen(node int) bool {
	n := f.Nodes[node]
	return n.Kind == api.BindNode && len(n.Kids) == 0 && len(f.found[node]) == 0
}

// bind gives the types of a SetNode's expr to the BindNodes that have none of their own, if they are as many.
func (f *finder) bind(set int) bool {
	n := f.Nodes[set]
	types := f.found[n.Kids[n.N]]
	if len(types) != n.N {
		return false
	}
	for i, bind := range n.Kids[:n.N] {
		if f.isOpen(bind) {
			f.found[bind] = types[i : i+1]
		}
	}
	return true
}

// declared returns the type of a declaration, if it is known.
func (f *finder) declared(node int) []string {
	n := f.Nodes[node]
	switch {
	case n.Kind == api.SpanNode: // its type is needed in its expr, before it is done
		return []string{intWord}
	case n.Kind != api.InitNode && len(n.Kids) > 0:
		return []string{f.written(n.Kids[0])}
	}
	return f.found[node]
}

// sign returns the types of the params of an item, and its own.
func (f *finder) sign(item int) (params, results []string) {
	n := f.Nodes[item]
	for _, param := range n.Kids[:n.N] {
		params = append(params, f.declared(param)...)
	}
	for _, node := range n.Kids[n.N : len(n.Kids)-1] {
		results = append(results, f.written(node))
	}
	return params, results
}

// written returns the text of a type node.
func (f *finder) written(node int) string {
	n := f.Nodes[node]
	part := ""
	if len(n.Kids) > 0 {
		part = f.written(n.Kids[0])
	}
	return joined(f.words[n.Kind], part)
}

// each yields the types of nodes that are done, node by node.
func (f *finder) each(nodes ...int) iter.Seq[[]string] {
	return func(yield func([]string) bool) {
		for _, node := range nodes {
			if !yield(f.found[node]) {
				return
			}
		}
	}
}

// differs reports whether some node has other types in another tree, in which nodes have new numbers.
func (f *finder) differs(other *finder, numbers map[int]int) bool {
	differs := func(node int) bool {
		number, ok := numbers[node]
		return ok && !slices.Equal(f.found[node], other.found[number])
	}
	for node := range f.Nodes {
		if differs(node) {
			return true
		}
	}
	return false
}
