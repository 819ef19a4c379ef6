package names_test

import (
	"math/rand"
	"slices"
	"testing"

	"floodgate/api"
	"floodgate/names"
)

// P3.1: random trees, with and without errors, against the oracle.
func TestResolveRandom(t *testing.T) {
	r := rand.New(rand.NewSource(31))
	many := map[api.Errno]int{}
	for range 3000 {
		x := grown(r, 3, 4)
		if r.Intn(2) == 0 {
			x = spoiled(r, x)
		}
		o := newOracle(x)
		node, e := o.wrong()
		many[e]++
		k, at, f := names.Resolve(x)
		if at != node || f != e {
			t.Fatal(shown(x), at, f, node, e)
		}
		var want []int
		for _, k := range o.all {
			if o.means[k] == nil {
				want = append(want, -1)
			} else {
				want = append(want, o.means[k].number)
			}
		}
		if e != api.OK {
			want = nil
		}
		if !slices.Equal(k.Of, want) {
			t.Fatal(shown(x), k.Of, want)
		}
	}
	for _, e := range []api.Errno{api.OK, api.ErrTwice, api.ErrName, api.ErrState} {
		if many[e] < 100 {
			t.Error(e, many[e])
		}
	}
}

// P3.2 to P3.6: all functions, for all nodes, against the oracle.
func TestFunctionsRandom(t *testing.T) {
	r := rand.New(rand.NewSource(32))
	for range 80 {
		x := sound(r, 4, 3)
		o := newOracle(x)
		for _, i := range all(x) {
			compareNode(t, x, o, i)
			for _, set := range find(x, api.SetNode) {
				if isKind(x, i, api.NameNode) && r.Intn(3) == 0 || r.Intn(20) == 0 {
					compareLate(t, x, o, i, set)
				}
			}
		}
		for i := -1; i <= len(x.Items); i++ {
			l, e := names.Calls(x, i)
			var want []int
			there := i >= 0 && i < len(x.Items)
			if there {
				want = o.calls(i)
			}
			agree(t, "Calls", x, i, l, want, e, there)
		}
		l, e := names.Dead(x)
		agree(t, "Dead", x, 0, l, o.dead(), e, true)
	}
}

// agree compares a list with the one that is wanted, if what is asked for is there, or else with an error.
func agree(t *testing.T, what string, x api.Tree, i int, l, want []int, e api.Errno, there bool) {
	t.Helper()
	if !slices.Equal(l, want) || there != (e == api.OK) || !there && e != api.ErrNone {
		t.Fatal(what, i, l, want, e, shown(x))
	}
}

func compareNode(t *testing.T, x api.Tree, o *oracle, i int) {
	t.Helper()
	var uses, sight, needs, order, outside []int
	if isDeclaration(x, i) {
		for _, k := range o.all {
			if o.means[k] == o.all[i] {
				uses = append(uses, k.number)
			}
		}
	}
	if isExpr(x, i) {
		sight = numbers(o.scope[o.all[i]])
		slices.Sort(sight)
	}
	if isKind(x, i, api.SetNode) {
		needs = numbers(o.needs[o.all[i]])
	}
	if isKind(x, i, api.BlockNode, api.LoopNode) {
		order = numbers(o.order(o.all[i]))
	}
	if isExpr(x, i) || isKind(x, i, api.SpanNode) {
		outside = numbers(o.outside(o.all[i]))
	}
	l, e := names.Uses(x, i)
	agree(t, "Uses", x, i, l, uses, e, isDeclaration(x, i))
	l, e = names.Sight(x, i)
	agree(t, "Sight", x, i, l, sight, e, isExpr(x, i))
	l, e = names.Needs(x, i)
	agree(t, "Needs", x, i, l, needs, e, isKind(x, i, api.SetNode))
	l, e = names.Order(x, i)
	agree(t, "Order", x, i, l, order, e, isKind(x, i, api.BlockNode, api.LoopNode))
	l, e = names.Outside(x, i)
	agree(t, "Outside", x, i, l, outside, e, isExpr(x, i) || isKind(x, i, api.SpanNode))
}

func compareLate(t *testing.T, x api.Tree, o *oracle, i, set int) {
	t.Helper()
	there := isKind(x, i, api.NameNode) && isKind(x, set, api.SetNode) && o.all[set].has(o.all[i])
	late, e := names.Late(x, i, set)
	want := there && o.late(o.all[i], o.all[set])
	if late != want || there != (e == api.OK) || !there && e != api.ErrNone {
		t.Fatal("Late", i, set, late, want, e, shown(x))
	}
}
