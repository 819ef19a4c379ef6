package types_test

import (
	"fmt"
	"math/rand"
	"slices"
	"strings"
	"testing"

	"floodgate/api"
	"floodgate/names"
	"floodgate/parse"
	"floodgate/types"
)

// agree compares Infer of a tree whose names have no error with the oracle.
func agree(t *testing.T, x api.Tree) api.Errno {
	t.Helper()
	o := newOracle(x)
	at, bad := o.first()
	k, node, e := types.Infer(x)
	if bad != (e == api.ErrType) || node != at || !bad && e != api.OK {
		t.Fatal(shown(x), node, e, at, bad)
	}
	for i, l := range k.Of {
		if want := o.types[i]; !slices.Equal(l, want) {
			t.Fatal(shown(x), i, l, want)
		}
	}
	return e
}

// P4.1, P4.8: random trees whose types are right.
func TestInferRandom(t *testing.T) {
	for x := range trees(1, 500, 0) {
		if agree(t, x) != api.OK {
			t.Fatal(shown(x))
		}
	}
}

// P4.1: random trees with errors, which the oracle finds in its list of the turns.
func TestErrorsRandom(t *testing.T) {
	r := rand.New(rand.NewSource(41))
	many := map[api.Errno]int{}
	nodes := map[uint8]int{}
	for x := range trees(2, 2000, 60) {
		if s := spoiled(r, shown(x)); r.Intn(2) == 0 {
			y, _, e := parse.Parse(s)
			if e != api.OK {
				continue
			}
			x = y
		}
		_, at, e := names.Resolve(x)
		if e == api.OK {
			e = agree(t, x)
			_, at, _ = types.Infer(x)
		} else if _, node, f := types.Infer(x); node != at || f != e {
			t.Fatal(shown(x), node, f, at, e)
		}
		many[e]++
		if e == api.ErrType {
			nodes[x.Nodes[at].Kind]++
		}
	}
	for _, e := range []api.Errno{api.OK, api.ErrType, api.ErrName, api.ErrTwice, api.ErrState} {
		if many[e] < 5 {
			t.Error(e, many[e])
		}
	}
	for _, kind := range []uint8{api.NameNode, api.ConsNode, api.EqNode, api.LtNode, api.AddNode, api.NegNode, api.NotNode, api.HeadNode, api.TailNode, api.EmptyNode, api.SizeNode, api.ReadNode, api.CallNode, api.IfNode, api.LoopNode, api.ArrayNode, api.BlockNode, api.SetNode, api.NextNode, api.DefItem} {
		if nodes[kind] == 0 {
			t.Error("no error at a node of the kind", kind)
		}
	}
}

// P4.3: Of, Arity and Sign of random trees say what Infer says, and the oracle.
func TestAsked(t *testing.T) {
	for x := range trees(3, 8, 0) {
		k, _, _ := types.Infer(x)
		for i := range x.Nodes {
			l, e := types.Of(x, i)
			many, f := types.Arity(x, i)
			if !slices.Equal(l, k.Of[i]) || many != len(l) || e != api.OK || f != api.OK {
				t.Fatal(shown(x), i, l, many, e, f)
			}
		}
		for i, item := range x.Items {
			a, b := newOracle(x).sign(item)
			params, results, e := types.Sign(x, i)
			if !slices.Equal(params, a) || !slices.Equal(results, b) || e != api.OK {
				t.Fatal(shown(x), i, params, results, e)
			}
		}
	}
}

// P4.2: random trees that are programs, or have no main, or one with other params.
func TestCheckRandom(t *testing.T) {
	r := rand.New(rand.NewSource(42))
	for x := range trees(4, 500, 0) {
		for _, item := range x.Items {
			if x.Nodes[item].Text == "main" && r.Intn(3) == 0 {
				x, _ = names.Rename(x, item, "other")
				break
			}
		}
		want, wantError := 0, api.ErrNone
		for i, item := range x.Items {
			if x.Nodes[item].Text != "main" {
				continue
			}
			params, _, _ := types.Sign(x, i)
			if wantError = api.OK; len(params) > 3 || strings.Join(params, ", ") != strings.Join(slices.Repeat(l("stream int"), len(params)), ", ") {
				want, wantError = item, api.ErrType
			}
		}
		if node, e := types.Check(x); node != want || e != wantError {
			t.Fatal(shown(x), node, e, want, wantError)
		}
	}
}

// P4.5, P4.6: Plain and Bare of random trees.
func TestPlainRandom(t *testing.T) {
	bare := map[api.Errno]int{}
	for x := range trees(5, 150, 0) {
		follow(t, x)
		_, e := types.Bare(x)
		bare[e]++
	}
	if bare[api.OK] < 30 || bare[api.ErrType] < 30 {
		t.Error(bare)
	}
}

// byName are the types of the declarations of a tree, by the names of their items and their own.
func byName(x api.Tree) (map[string]string, api.Errno) {
	k, _, e := types.Infer(x)
	m := map[string]string{}
	first := 0
	for _, item := range x.Items {
		for i := first; i < item && e == api.OK; i++ {
			if n := x.Nodes[i]; slices.Contains([]uint8{api.ParamNode, api.BindNode, api.InitNode, api.SpanNode}, n.Kind) {
				m[x.Nodes[item].Text+" "+n.Text] = fmt.Sprint(k.Of[i])
			}
		}
		first = item + 1
	}
	return m, e
}

// P4.7: random trees with their items and stmts in another order.
func TestWhateverTheOrder(t *testing.T) {
	many := map[bool]int{}
	for seed := range int64(1500) {
		x, ok := grown(seed, 0, 150)
		if !ok {
			continue
		}
		m, e := byName(x)
		many[e == api.OK]++
		for order := range int64(4) {
			y, ok := grown(seed, order+1, 150)
			other, f := byName(y)
			if !ok || (e == api.OK) != (f == api.OK) || fmt.Sprint(other) != fmt.Sprint(m) {
				t.Fatal(shown(x), shown(y), e, f, m, other)
			}
		}
	}
	if many[true] < 150 || many[false] < 150 {
		t.Error(many)
	}
}

// P4.9: a number that must be an int becomes a truth: then there is an error, where it must.
func TestOneChange(t *testing.T) {
	changed := map[uint8]int{}
	for x := range trees(7, 300, 0) {
		for i, n := range x.Nodes {
			asks := n.Kind >= api.AddNode && n.Kind <= api.ModNode || n.Kind >= api.LtNode && n.Kind <= api.GeNode || n.Kind == api.NegNode
			for _, kid := range n.Kids {
				if !asks || x.Nodes[kid].Kind != api.NumNode {
					continue
				}
				y := clone(x, 0)
				y.Nodes[kid].Kind, y.Nodes[kid].N = api.BoolNode, kid%2
				changed[n.Kind]++
				if k, node, e := types.Infer(y); node != i || e != api.ErrType || len(k.Of) != 0 {
					t.Fatal(shown(y), node, e, i)
				}
			}
		}
	}
	if len(changed) != 10 {
		t.Error(changed)
	}
}
