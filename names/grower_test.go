package names_test

import (
	"fmt"
	"math/rand"
	"slices"

	"floodgate/api"
)

// grower makes random trees that have their form.
type grower struct {
	r     *rand.Rand
	names int // how many declarations the item has so far
}

// grown returns a tree with so many items at most. Its declarations differ, and its names mean something; stmts may need themselves.
func grown(r *rand.Rand, items, deep int) api.Tree {
	for {
		g := &grower{r: r}
		var l []*knot
		for i := range r.Intn(items + 1) {
			l = append(l, g.def(i, deep))
		}
		if t := flat(l); len(t.Nodes) <= 200 {
			g.name(&t, l)
			return t
		}
	}
}

// sound returns a tree without an error: names with which a stmt needs itself become numbers.
func sound(r *rand.Rand, items, deep int) api.Tree {
	t := grown(r, items, deep)
	for {
		o := newOracle(t)
		node, e := o.wrong()
		if e == api.OK {
			return t
		}
		var knotted []int
		o.all[node].each(func(k *knot) {
			if d := o.means[k]; k.Kind == api.NameNode && d.Kind == api.BindNode && slices.Contains(o.needs[o.all[node]], d.up) {
				knotted = append(knotted, k.number)
			}
		})
		i := knotted[r.Intn(len(knotted))]
		t.Nodes[i] = api.TreeNode{Kind: api.NumNode, At: t.Nodes[i].At}
	}
}

// name lets the nodes that mean something mean something that they can.
func (g *grower) name(t *api.Tree, items []*knot) {
	o := newOracle(*t)
	for i, k := range o.all {
		var from []*knot
		switch k.Kind {
		case api.NameNode:
			from = o.scope[k]
			if len(from) == 0 {
				t.Nodes[i] = api.TreeNode{Kind: api.NumNode, At: k.At}
			}
		case api.CallNode:
			from = o.items
		case api.NextNode:
			// The inits of a loop are more than its nexts, which take them from the last one on.
			nexts, inits := k.up.of(api.NextNode), k.up.of(api.InitNode)
			for j, next := range nexts {
				if next == k {
					from = list(inits[len(inits)-1-j])
				}
			}
		}
		if len(from) > 0 {
			t.Nodes[i].Text = from[g.r.Intn(len(from))].Text
		}
	}
}

// kn makes a node.
func (g *grower) node(kind uint8, text string, n int, kids ...*knot) *knot {
	return &knot{TreeNode: api.TreeNode{Kind: kind, Text: text, N: n, At: g.r.Intn(2501)}, kids: kids}
}

// fresh is a name that the item has not yet; another item has it, too.
func (g *grower) fresh() string {
	g.names++
	return fmt.Sprintf("%c%d", 'a'+g.names%3, g.names)
}

func (g *grower) many(n int, part func() *knot) []*knot {
	var l []*knot
	for range n {
		l = append(l, part())
	}
	return l
}

func (g *grower) def(i, deep int) *knot {
	g.names = 0
	text := []string{"main", "f", "a1", "b1", "c2", "head1"}[i]
	params := g.many(g.r.Intn(3), func() *knot { return g.node(api.ParamNode, g.fresh(), 0, g.node(api.IntType, "", 0)) })
	kids := append(params, g.node(api.BoolType, "", 0), g.block(deep))
	return g.node(api.DefItem, text, len(params), kids...)
}

func (g *grower) block(deep int) *knot {
	sets := g.many(g.r.Intn(5), func() *knot { return g.set(deep) })
	gives := g.many(1+g.r.Intn(2), func() *knot { return g.expr(deep - 1) })
	return g.node(api.BlockNode, "", len(sets), append(sets, gives...)...)
}

func (g *grower) set(deep int) *knot {
	n := 1
	if g.r.Intn(4) == 0 {
		n = 2
	}
	binds := g.many(n, func() *knot {
		if g.r.Intn(3) == 0 {
			return g.node(api.BindNode, g.fresh(), 0, g.node(api.IntType, "", 0))
		}
		return g.node(api.BindNode, g.fresh(), 0)
	})
	return g.node(api.SetNode, "", n, append(binds, g.expr(deep-1))...)
}

func (g *grower) expr(deep int) *knot {
	if deep <= 0 || g.r.Intn(5) == 0 {
		if g.r.Intn(4) == 0 {
			return g.node(api.NumNode, "", g.r.Intn(9))
		}
		return g.node(api.NameNode, "", 0)
	}
	expr := func() *knot { return g.expr(deep - 1) }
	switch g.r.Intn(9) {
	case 0:
		return g.node(api.CallNode, "", 0, g.many(g.r.Intn(3), expr)...)
	case 1:
		return g.node(api.IfNode, "", 0, expr(), g.block(deep-1), g.block(deep-1))
	case 2, 3:
		return g.loop(deep - 1)
	case 4:
		return g.array(deep - 1)
	case 5:
		return g.node(api.HeadNode, "", 0, expr())
	case 6, 7:
		return g.node(api.ConsNode, "", 0, expr(), expr())
	}
	return g.node(api.AddNode, "", 0, expr(), expr())
}

func (g *grower) loop(deep int) *knot {
	expr := func() *knot { return g.expr(deep) }
	inits := g.many(1+g.r.Intn(3), func() *knot { return g.node(api.InitNode, g.fresh(), 0, expr()) })
	kids := append(inits, expr())
	kids = append(kids, g.many(g.r.Intn(4), func() *knot { return g.set(deep) })...)
	kids = append(kids, g.many(g.r.Intn(len(inits)+1), func() *knot { return g.node(api.NextNode, "", 0, expr()) })...)
	kids = append(kids, g.node(api.GiveNode, "", 0, g.many(1+g.r.Intn(2), expr)...))
	return g.node(api.LoopNode, "", len(inits), kids...)
}

func (g *grower) array(deep int) *knot {
	kids := list(g.expr(deep))
	for range 1 + g.r.Intn(3) {
		bound := func() *knot { return g.node(api.BoundNode, "#", g.r.Intn(3)) }
		if g.r.Intn(2) == 0 {
			kids = append(kids, g.node(api.CellNode, "", 0, bound(), g.expr(deep)))
		} else {
			kids = append(kids, g.node(api.SpanNode, g.fresh(), 1, bound(), bound(), g.expr(deep)))
		}
	}
	return g.node(api.ArrayNode, "", 0, kids...)
}

// spoiled gives some nodes the names of others, or one that nothing has.
func spoiled(r *rand.Rand, t api.Tree) api.Tree {
	t = clone(t, 0)
	var named []int
	for i, n := range t.Nodes {
		if n.Text != "" && n.Text != "#" {
			named = append(named, i)
		}
	}
	for range 1 + r.Intn(3) {
		if len(named) == 0 {
			break
		}
		text := t.Nodes[named[r.Intn(len(named))]].Text
		if r.Intn(4) == 0 {
			text = "unknown"
		}
		t.Nodes[named[r.Intn(len(named))]].Text = text
	}
	return t
}
