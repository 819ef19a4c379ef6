package names_test

import (
	"math/rand"
	"slices"
	"testing"

	"floodgate/api"
	"floodgate/names"
	"floodgate/parse"
)

// mixed puts the stmts of all blocks and loops of a tree in another order, and tells which numbers its nodes have then.
func mixed(r *rand.Rand, x api.Tree) (api.Tree, []int) {
	l := knots(x)
	for _, k := range l {
		sets := k.of(api.SetNode)
		from := slices.IndexFunc(k.kids, func(kid *knot) bool { return kid.Kind == api.SetNode })
		if k.Kind != api.DefItem && from >= 0 {
			r.Shuffle(len(sets), func(a, b int) { sets[a], sets[b] = sets[b], sets[a] })
			copy(k.kids[from:], sets)
		}
	}
	y := flat(tops(l))
	return y, numbers(l)
}

// moved are the new numbers of nodes, ascending; -1 stays.
func moved(l, to []int) []int {
	var m []int
	for _, i := range l {
		if i < 0 {
			m = append(m, i)
		} else {
			m = append(m, to[i])
		}
	}
	return m
}

func sorted(l []int) []int {
	l = slices.Clone(l)
	slices.Sort(l)
	return l
}

// P3.7: with stmts in another order there is an error as well, or none; names mean the same, and stmts need the same.
func TestWhateverTheOrder(t *testing.T) {
	r := rand.New(rand.NewSource(37))
	for i := range 600 {
		x := grown(r, 2, 4)
		if i%3 == 0 {
			x = spoiled(r, x)
		}
		y, to := mixed(r, x)
		a, _, e := names.Resolve(x)
		b, _, f := names.Resolve(y)
		if (e == api.OK) != (f == api.OK) {
			t.Fatal(shown(x), e, shown(y), f)
		}
		if e != api.OK {
			continue
		}
		for node, of := range a.Of {
			if b.Of[to[node]] != moved(n(of), to)[0] {
				t.Fatal(shown(x), shown(y), node)
			}
		}
		for _, set := range find(x, api.SetNode) {
			a, _ := names.Needs(x, set)
			b, _ := names.Needs(y, to[set])
			if !slices.Equal(sorted(moved(a, to)), b) {
				t.Fatal(shown(x), set, a, shown(y), to[set], b)
			}
		}
	}
}

// leastOrder is the least of all orders in which each stmt comes behind all that it needs, found by trying all.
func leastOrder(sets []int, needs map[int][]int, done []int) []int {
	if len(sets) == 0 {
		return done
	}
	for i, set := range sets {
		left := slices.Delete(slices.Clone(sets), i, i+1)
		if slices.ContainsFunc(needs[set], func(other int) bool { return !slices.Contains(done, other) }) {
			continue
		}
		if l := leastOrder(left, needs, append(slices.Clone(done), set)); l != nil {
			return l
		}
	}
	return nil
}

// P3.8: each stmt comes behind all that it needs at once, and of all such orders it is the least one.
func TestAnOrder(t *testing.T) {
	r := rand.New(rand.NewSource(38))
	other := 0
	for range 200 {
		x := sound(r, 2, 4)
		for _, node := range append(find(x, api.BlockNode), find(x, api.LoopNode)...) {
			order, e := names.Order(x, node)
			if e != api.OK {
				t.Fatal(e)
			}
			needs := map[int][]int{}
			for i, set := range order {
				needs[set], _ = names.Needs(x, set)
				if slices.ContainsFunc(needs[set], func(other int) bool { return !slices.Contains(order[:i], other) }) {
					t.Fatal(shown(x), node, order, set)
				}
			}
			sets := sorted(order)
			if !slices.Equal(sets, order) {
				other++
			}
			if want := leastOrder(sets, needs, nil); !slices.Equal(order, want) {
				t.Fatal(shown(x), node, order, want)
			}
		}
	}
	if other < 50 {
		t.Error("only so many orders are not those of the numbers:", other)
	}
}

// P3.9: what a node means is in sight; Uses and Resolve say the same; what is in sight stays so below.
func TestMeant(t *testing.T) {
	r := rand.New(rand.NewSource(39))
	for range 60 {
		x := sound(r, 3, 3)
		k, _, _ := names.Resolve(x)
		for i, of := range k.Of {
			var sight []int
			if isExpr(x, i) {
				sight, _ = names.Sight(x, i)
				below(t, x, i, sight)
			}
			parent, _ := parse.Parent(x, i)
			if isKind(x, of, api.DefItem) && isKind(x, i, api.CallNode) || isKind(x, i, api.NextNode) && slices.Contains(x.Nodes[parent].Kids, of) || of < 0 {
				continue
			}
			if !slices.Contains(sight, of) {
				t.Fatal(shown(x), i, of, sight)
			}
		}
		for i := range x.Nodes {
			uses, e := names.Uses(x, i)
			for j, of := range k.Of {
				if e == api.OK && slices.Contains(uses, j) != (of == i) || e != api.OK && of == i {
					t.Fatal(shown(x), i, uses, e)
				}
			}
		}
	}
}

// below compares what is in sight at an expression with what is in sight in it.
func below(t *testing.T, x api.Tree, i int, sight []int) {
	t.Helper()
	first, _ := parse.First(x, i)
	for j := first; j < i; j++ {
		if !isExpr(x, j) {
			continue
		}
		inner, _ := names.Sight(x, j)
		if slices.ContainsFunc(sight, func(d int) bool { return !slices.Contains(inner, d) }) {
			t.Fatal(shown(x), i, sight, j, inner)
		}
	}
}

// P3.10: after Rename each node means the same, and renamed back it is the tree.
func TestRenamed(t *testing.T) {
	r := rand.New(rand.NewSource(310))
	states := 0
	for range 400 {
		x := sound(r, 3, 4)
		var declarations []int
		for i := range x.Nodes {
			if isDeclaration(x, i) {
				declarations = append(declarations, i)
			}
		}
		if len(declarations) == 0 {
			continue
		}
		node := declarations[r.Intn(len(declarations))]
		name := x.Nodes[declarations[r.Intn(len(declarations))]].Text
		if r.Intn(2) == 0 {
			name = "fresh"
		}
		y, e := names.Rename(x, node, name)
		o := renamed(x, node, name)
		_, wrong := newOracle(o).wrong()
		if wrong != api.OK {
			states++
			if e != api.ErrState || len(y.Nodes)+len(y.Items) != 0 {
				t.Fatal(shown(x), node, name, e)
			}
			continue
		}
		if same, f := parse.Same(y, o); !same || e != api.OK || f != api.OK {
			t.Fatal(shown(x), node, name, shown(y), e)
		}
		a, _, _ := names.Resolve(x)
		b, _, _ := names.Resolve(y)
		z, e := names.Rename(y, node, x.Nodes[node].Text)
		if !slices.Equal(a.Of, b.Of) || told(z) != told(x) || e != api.OK {
			t.Fatal(shown(x), node, name, shown(y), shown(z), e)
		}
	}
	if states < 20 {
		t.Error("only so many names stood already:", states)
	}
}

// renamed changes a declaration and what means it.
func renamed(x api.Tree, node int, name string) api.Tree {
	o := newOracle(x)
	y := clone(x, 0)
	for i, k := range o.all {
		if i == node || o.means[k] == o.all[node] {
			y.Nodes[i].Text = name
		}
	}
	return y
}

// P3.10: without its dead items a tree resolves in the same way.
func TestWithoutTheDead(t *testing.T) {
	r := rand.New(rand.NewSource(311))
	less := 0
	for range 300 {
		x := sound(r, 6, 3)
		dead, _ := names.Dead(x)
		var live api.Tree
		to := slices.Repeat(n(-1), len(x.Nodes))
		for i, item := range x.Items {
			if slices.Contains(dead, i) {
				continue
			}
			first, _ := parse.First(x, item)
			for node := first; node <= item; node++ {
				to[node] = len(live.Nodes) + node - first
			}
			one, _ := parse.Cut(x, i)
			live, _ = parse.Join(live, one)
		}
		if len(live.Items) > 0 && len(dead) > 0 {
			less++
		}
		a, _, _ := names.Resolve(x)
		b, _, e := names.Resolve(live)
		if e != api.OK {
			t.Fatal(shown(x), shown(live), e)
		}
		for node, of := range a.Of {
			if to[node] >= 0 && b.Of[to[node]] != moved(n(of), to)[0] {
				t.Fatal(shown(x), node, of)
			}
		}
	}
	if less < 50 {
		t.Error("only so many trees had some dead items:", less)
	}
}

// P3.11: where a name is late for the stmts above it any other one in sight may stand, also one that is being defined.
func TestTied(t *testing.T) {
	r := rand.New(rand.NewSource(312))
	ties, knots := 0, 0
	for range 150 {
		x := sound(r, 2, 4)
		o := newOracle(x)
		for _, i := range find(x, api.NameNode) {
			k := o.all[i]
			d := o.scope[k][r.Intn(len(o.scope[k]))]
			y := clone(x, 0)
			y.Nodes[i].Text = d.Text
			_, node, e := names.Resolve(y)
			own := d.Kind == api.BindNode && d.up.has(k)
			switch {
			case tied(t, x, i):
				if e != api.OK {
					t.Fatal(shown(x), i, d.Text, node, e)
				}
				if own {
					ties++
				}
			case own && !o.late(k, d.up):
				if knots++; e != api.ErrState {
					t.Fatal(shown(x), i, d.Text, node, e)
				}
			}
		}
	}
	if ties < 50 || knots < 50 {
		t.Error("only so many names were being defined:", ties, knots)
	}
}

// tied reports whether a name is late for all stmts above it.
func tied(t *testing.T, x api.Tree, name int) bool {
	t.Helper()
	for up := name; up >= 0; up, _ = parse.Parent(x, up) {
		if !isKind(x, up, api.SetNode) {
			continue
		}
		late, e := names.Late(x, name, up)
		if e != api.OK {
			t.Fatal(shown(x), name, up, e)
		}
		if !late {
			return false
		}
	}
	return true
}
