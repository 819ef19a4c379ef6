package names_test

import (
	"slices"

	"floodgate/api"
)

// knot is a node of a tree, with its kids and the one above it themselves.
type knot struct {
	api.TreeNode
	number int
	kids   []*knot
	up     *knot
}

// knots returns the nodes of a tree, by their numbers.
func knots(t api.Tree) []*knot {
	var l []*knot
	for i, n := range t.Nodes {
		k := &knot{TreeNode: n, number: i}
		for _, kid := range n.Kids {
			k.kids = append(k.kids, l[kid])
			l[kid].up = k
		}
		l = append(l, k)
	}
	return l
}

// tops are those of some nodes that nothing is above.
func tops(l []*knot) []*knot {
	return slices.DeleteFunc(slices.Clone(l), func(k *knot) bool { return k.up != nil })
}

// flat makes a tree of items, and gives their nodes their numbers in it.
func flat(items []*knot) api.Tree {
	var t api.Tree
	var put func(k *knot) int
	put = func(k *knot) int {
		n := k.TreeNode
		n.Kids = nil
		for _, kid := range k.kids {
			number := put(kid)
			n.Kids = append(n.Kids, number)
		}
		k.number = len(t.Nodes)
		t.Nodes = append(t.Nodes, n)
		return k.number
	}
	for _, item := range items {
		number := put(item)
		t.Items = append(t.Items, number)
	}
	return t
}

// each does something with a node and all below it.
func (k *knot) each(do func(*knot)) {
	for _, kid := range k.kids {
		kid.each(do)
	}
	do(k)
}

// has reports whether a node is, or is below, this one.
func (k *knot) has(other *knot) bool {
	for ; other != nil; other = other.up {
		if other == k {
			return true
		}
	}
	return false
}

func (k *knot) last() *knot { return k.kids[len(k.kids)-1] }

func (k *knot) of(kind uint8) []*knot {
	return slices.DeleteFunc(slices.Clone(k.kids), func(kid *knot) bool { return kid.Kind != kind })
}

// oracle says all that the chapter says of a tree that has its form, from the top down, and by trying all pairs.
type oracle struct {
	all   []*knot
	items []*knot
	scope map[*knot][]*knot // what is in sight at expressions
	means map[*knot]*knot
	needs map[*knot][]*knot
}

func newOracle(t api.Tree) *oracle {
	o := &oracle{all: knots(t), scope: map[*knot][]*knot{}, means: map[*knot]*knot{}, needs: map[*knot][]*knot{}}
	o.items = tops(o.all)
	for _, item := range o.items {
		o.enter(item.last(), item.of(api.ParamNode))
	}
	for _, k := range o.all {
		o.mean(k)
	}
	for _, k := range o.all {
		if k.Kind == api.SetNode {
			o.needs[k] = o.needed(k)
		}
	}
	return o
}

func declared(sets []*knot) []*knot {
	var l []*knot
	for _, set := range sets {
		l = append(l, set.of(api.BindNode)...)
	}
	return l
}

// enter goes through a node with what is in sight there.
func (o *oracle) enter(k *knot, scope []*knot) {
	scope = slices.Clone(scope)
	o.scope[k] = scope
	inner := func(kids []*knot, more ...*knot) {
		for _, kid := range kids {
			o.enter(kid, append(slices.Clone(scope), more...))
		}
	}
	switch k.Kind {
	case api.BlockNode:
		inner(k.kids, declared(k.of(api.SetNode))...)
	case api.SpanNode:
		inner(k.kids[2:], k)
	case api.LoopNode:
		inits, sets, nexts := k.of(api.InitNode), k.of(api.SetNode), k.of(api.NextNode)
		inner(inits)
		inner(list(k.kids[len(inits)], k.last()), inits...)
		inner(append(sets, nexts...), append(slices.Clone(inits), declared(sets)...)...)
	default:
		inner(k.kids)
	}
}

func list(l ...*knot) []*knot { return l }

func (o *oracle) mean(k *knot) {
	var from []*knot
	switch k.Kind {
	case api.NameNode:
		from = o.scope[k]
	case api.CallNode:
		from = o.items
	case api.NextNode:
		from = k.up.of(api.InitNode)
	}
	for _, d := range from {
		if d.Text == k.Text && o.means[k] == nil {
			o.means[k] = d
		}
	}
}

func (o *oracle) item(k *knot) *knot {
	return o.items[slices.IndexFunc(o.items, func(item *knot) bool { return item.has(k) })]
}

func (o *oracle) isDeclaration(k *knot) bool {
	return slices.Contains([]uint8{api.ParamNode, api.BindNode, api.InitNode, api.SpanNode}, k.Kind)
}

// wrong is the first error, and its node.
func (o *oracle) wrong() (int, api.Errno) {
	for i, k := range o.all {
		for _, other := range o.all[:i] {
			if other.Text != k.Text {
				continue
			}
			items := k.Kind == api.DefItem && other.Kind == api.DefItem
			nexts := k.Kind == api.NextNode && other.Kind == api.NextNode && k.up == other.up
			if items || nexts || o.isDeclaration(k) && o.isDeclaration(other) && o.item(k) == o.item(other) {
				return i, api.ErrTwice
			}
		}
		if slices.Contains([]uint8{api.NameNode, api.CallNode, api.NextNode}, k.Kind) && o.means[k] == nil {
			return i, api.ErrName
		}
	}
	for i, k := range o.all {
		if k.Kind == api.SetNode && o.needsOver(k, k, len(o.all)) {
			return i, api.ErrState
		}
	}
	return 0, api.OK
}

// needsOver reports whether a stmt needs another one, directly or over at most so many others.
func (o *oracle) needsOver(a, b *knot, many int) bool {
	near := map[*knot]bool{}
	for _, k := range o.needs[a] {
		near[k] = true
	}
	for grown := true; grown && many > 0; many-- {
		grown = false
		for _, k := range o.all {
			for _, next := range o.needs[k] {
				if near[k] && !near[next] {
					near[next], grown = true, true
				}
			}
		}
	}
	return near[b]
}

// way returns the nodes from the top down to a node.
func way(top, k *knot) []*knot {
	if top == k {
		return list(k)
	}
	return append(way(top, k.up), k)
}

// late goes down from the expr of a stmt to a name.
func (o *oracle) late(name, set *knot) bool {
	l := way(set.last(), name)
	for i, into := range l[1:] {
		switch from := l[i]; from.Kind {
		case api.ConsNode:
			return true
		case api.CellNode, api.SpanNode:
			if into == from.last() {
				return true
			}
		case api.LoopNode:
			if into.Kind != api.InitNode {
				return false
			}
		}
	}
	return false
}

func (o *oracle) needed(set *knot) []*knot {
	var l []*knot
	for _, other := range set.up.of(api.SetNode) {
		needs := false
		set.last().each(func(k *knot) {
			d := o.means[k]
			if k.Kind == api.NameNode && d != nil && d.Kind == api.BindNode && slices.Contains(other.kids, d) && !o.late(k, set) {
				needs = true
			}
		})
		if needs {
			l = append(l, other)
		}
	}
	return l
}

// order takes the stmts as the chapter says; stmts that are needed are never left before, if there is no error.
func (o *oracle) order(k *knot) []*knot {
	var done []*knot
	sets := k.of(api.SetNode)
	for len(done) < len(sets) {
		for _, set := range sets {
			ready := !slices.Contains(done, set)
			for _, other := range o.needs[set] {
				ready = ready && slices.Contains(done, other)
			}
			if ready {
				done = append(done, set)
				break
			}
		}
	}
	return done
}

func (o *oracle) outside(k *knot) []*knot {
	parts := list(k)
	switch k.Kind {
	case api.LoopNode:
		parts = k.kids[len(k.of(api.InitNode)):]
	case api.SpanNode:
		parts = k.kids[2:]
	}
	found := map[*knot]bool{}
	for _, part := range parts {
		part.each(func(use *knot) {
			if use.Kind == api.NameNode {
				found[o.means[use]] = true
			}
		})
	}
	var l []*knot
	for _, d := range o.all {
		in := slices.ContainsFunc(parts, func(part *knot) bool { return part.has(d) })
		own := d == k || d.up == k && d.Kind == api.InitNode
		if found[d] && !in && !own {
			l = append(l, d)
		}
	}
	return l
}

// calls returns the places of the items that an item calls.
func (o *oracle) calls(item int) []int {
	var l []int
	for i, other := range o.items {
		calls := false
		o.items[item].each(func(k *knot) { calls = calls || k.Kind == api.CallNode && o.means[k] == other })
		if calls {
			l = append(l, i)
		}
	}
	return l
}

func (o *oracle) dead() []int {
	lives := make([]bool, len(o.items))
	for range o.items {
		for i, item := range o.items {
			if item.Text == "main" {
				lives[i] = true
			}
			for _, called := range o.calls(i) {
				lives[called] = lives[called] || lives[i]
			}
		}
	}
	var l []int
	for i, live := range lives {
		if !live {
			l = append(l, i)
		}
	}
	return l
}

// numbers are those of nodes, in their order.
func numbers(l []*knot) []int {
	var m []int
	for _, k := range l {
		m = append(m, k.number)
	}
	return m
}
