package parse_test

import (
	"fmt"
	"math"
	"math/rand"
	"slices"
	"strings"
	"testing"

	"floodgate/api"
	"floodgate/parse"
)

// lit is a node with the nodes below it.
type lit struct {
	kind uint8
	text string
	n    int
	kids []lit
}

// put puts a node and what is below it behind the nodes of a tree.
func (l lit) put(t *api.Tree) int {
	var kids []int
	for _, k := range l.kids {
		kids = append(kids, k.put(t))
	}
	t.Nodes = append(t.Nodes, api.TreeNode{Kind: l.kind, Text: l.text, N: l.n, Kids: kids})
	return len(t.Nodes) - 1
}

func built(items ...lit) (t api.Tree) {
	for _, l := range items {
		t.Items = append(t.Items, l.put(&t))
	}
	return t
}

// counted puts into N how many kids of the first sort there are, of the kinds where N is that.
func (l lit) counted() lit {
	if kind, ok := map[uint8]uint8{api.DefItem: api.ParamNode, api.BlockNode: api.SetNode, api.SetNode: api.BindNode, api.LoopNode: api.InitNode}[l.kind]; ok {
		l.n = 0
		for _, k := range l.kids {
			if k.kind == kind {
				l.n++
			}
		}
	}
	return l
}

func of(kind uint8, text string, kids ...lit) lit { return lit{kind, text, 0, kids}.counted() }

func num(n int) lit { return lit{kind: api.NumNode, n: n} }

func step(n int, l lit) lit {
	l.n = n
	return l
}

var one, intType = num(1), of(api.IntType, "")

func block(l ...lit) lit { return of(api.BlockNode, "", l...) }

// samples has a good node of each kind.
func samples() []lit {
	a, bound := of(api.NameNode, "a"), of(api.BoundNode, "")
	set := of(api.SetNode, "", of(api.BindNode, "a"), of(api.BindNode, "b", intType), a)
	initial, next, give := of(api.InitNode, "a", one), of(api.NextNode, "a", one), of(api.GiveNode, "", a, one)
	cell, span := of(api.CellNode, "", bound, a), step(1, of(api.SpanNode, "a", bound, bound, a))
	l := []lit{one, step(1, of(api.BoolNode, "")), a, of(api.NilNode, "", intType), of(api.CallNode, "f", a, one), of(api.CallNode, "f"), of(api.IfNode, "", a, block(one), block(one)), of(api.LoopNode, "", initial, initial, a, set, next, give), of(api.LoopNode, "", initial, a, give), step(2, of(api.ArrayNode, "", one, cell, span)), block(set, set, a, one), set, of(api.BindNode, "a"), of(api.BindNode, "a", intType), initial, next, give, cell, span, bound, of(api.BoundNode, "#"), intType, of(api.BoolType, ""), of(api.ArrayType, "", intType), of(api.StreamType, "", intType), of(api.ParamNode, "a", intType), of(api.DefItem, "f", of(api.ParamNode, "a", intType), intType, intType, block(one))}
	for kind := api.ConsNode; kind <= api.ReadNode; kind++ {
		l = append(l, of(kind, "", a, one))
	}
	for kind := api.NotNode; kind <= api.SizeNode; kind++ {
		l = append(l, of(kind, "", a))
	}
	return l
}

// around puts a node into the def of a tree, where one of its kind may stand.
func (l lit) around() api.Tree {
	array := func(l lit) lit { return block(of(api.ArrayNode, "", one, l)) }
	loop := func(l ...lit) lit { return block(of(api.LoopNode, "", l...)) }
	first, give := of(api.InitNode, "a", one), of(api.GiveNode, "", one)
	b := block(one)
	types, params := []lit{intType}, []lit(nil)
	switch l.kind {
	case api.IntType, api.BoolType, api.ArrayType, api.StreamType:
		types = []lit{l}
	case api.ParamNode:
		params = []lit{l}
	case api.BlockNode:
		b = l
	case api.SetNode:
		b = block(l, one)
	case api.BindNode:
		b = block(of(api.SetNode, "", l, one), one)
	case api.InitNode:
		b = loop(l, one, give)
	case api.NextNode:
		b = loop(first, one, l, give)
	case api.GiveNode:
		b = loop(first, one, l)
	case api.CellNode, api.SpanNode:
		b = array(l)
	case api.BoundNode:
		b = array(of(api.CellNode, "", l, one))
	case api.DefItem:
		return built(l)
	default:
		b = block(l)
	}
	return built(of(api.DefItem, "f", slices.Concat(params, types, []lit{b})...))
}

// check compares what a tree's check says with what another one does.
func check(t *testing.T, x api.Tree) api.Errno {
	t.Helper()
	e, want := parse.Check(x), checkAgain(x)
	if e != want {
		t.Fatalf("%s\n%v, not %v", toldTree(x), e, want)
	}
	return e
}

// P2.3: each kind, with other kids: one less, one more, others, in another order.
func TestCheckKids(t *testing.T) {
	good, bad := 0, 0
	try := func(l lit, kids []lit) {
		l.kids = kids
		for _, x := range []lit{l, l.counted()} {
			if check(t, x.around()) == api.OK {
				good++
			} else {
				bad++
			}
		}
	}
	all := samples()
	for _, l := range all {
		if e := check(t, l.around()); e != api.OK {
			t.Fatal(l, e)
		}
		try(l, nil)
		for i := range len(l.kids) + 1 {
			front, rest := slices.Clip(l.kids[:i]), l.kids[i:]
			for _, k := range all {
				try(l, slices.Concat(front, []lit{k}, rest))
				if len(rest) > 0 {
					try(l, slices.Concat(front, []lit{k}, rest[1:]))
				}
			}
			if len(rest) > 0 {
				try(l, slices.Concat(front, rest[1:]))
			}
			if len(rest) > 1 {
				try(l, slices.Concat(front, []lit{rest[1], rest[0]}, rest[2:]))
			}
			for many := range 14 {
				if len(rest) > 0 {
					try(l, slices.Concat(front, slices.Repeat(rest[:1], many), rest[1:]))
				}
			}
		}
	}
	if good < 200 || bad < 1000 {
		t.Error(good, bad)
	}
}

// P2.3: the text, the number and the place of each kind.
func TestCheckFields(t *testing.T) {
	texts := []string{"", "a", "abcdefghijkl", "a23456789012", "iff", "#", "abcdefghijklm", "if", "int", "def", "A", "1", "1a", "a ", " a", "a b", "+", "##", "# ", "\xff", "a\x00"}
	numbers := []int{-1, 0, 1, 2, 3, 8, 9, 10, 99, 100, 101, 999999999, 1000000000, 1000000001, math.MinInt, math.MaxInt}
	for _, l := range samples() {
		for _, text := range texts {
			x := l
			x.text = text
			check(t, x.around())
		}
		for _, n := range numbers {
			check(t, step(n, l).around())
		}
		for _, at := range []int{-1, 0, 1, 2499, 2500, 2501, math.MinInt, math.MaxInt} {
			x := l.around()
			for i := range x.Nodes {
				x.Nodes[i].At = at
				if e := check(t, x); (e == api.OK) != (at >= 0 && at <= 2500) {
					t.Error(at, e)
				}
				x.Nodes[i].At = 0
			}
		}
	}
	for i, x := range []struct {
		l lit
		e api.Errno
	}{
		{num(0), api.OK}, {num(1000000000), api.OK}, {num(-1), api.ErrForm}, {num(1000000001), api.ErrForm}, {lit{kind: api.NumNode, text: "1", n: 1}, api.ErrForm}, {step(2, of(api.BoolNode, "")), api.ErrForm}, {step(-1, of(api.BoolNode, "")), api.ErrForm}, {step(1, of(api.NameNode, "a")), api.ErrForm}, {of(api.NameNode, ""), api.ErrForm}, {of(api.NameNode, "next"), api.ErrForm}, {of(api.NameNode, "abcdefghijklm"), api.ErrForm}, {of(api.NameNode, "#"), api.ErrForm}, {of(api.CallNode, "head", one), api.ErrForm},
		{of(api.BoundNode, "a"), api.ErrForm}, {of(api.BoundNode, "##"), api.ErrForm}, {step(100, of(api.BoundNode, "#")), api.OK}, {step(101, of(api.BoundNode, "#")), api.ErrForm}, {step(101, of(api.BoundNode, "")), api.ErrForm}, {step(-1, of(api.BoundNode, "#")), api.ErrForm}, {of(api.IntType, "#"), api.ErrForm}, {step(1, of(api.NegNode, "", one)), api.ErrForm}, {of(api.NegNode, "-", one), api.ErrForm}, {step(1, of(api.IntType, "")), api.ErrForm}, {step(1, of(api.GiveNode, "", one)), api.ErrForm}, {step(1, of(api.CallNode, "f", one)), api.ErrForm},
	} {
		if e := check(t, x.l.around()); e != x.e {
			t.Error(i, e)
		}
	}
	for kind := range 256 {
		l := lit{kind: uint8(kind)}
		if e := check(t, block(l).around()); (e == api.OK) != (l.kind == api.NumNode || l.kind == api.BoolNode) {
			t.Error(kind, e)
		}
		if e := check(t, built(l)); e != api.ErrForm {
			t.Error(kind, e)
		}
	}
}

// P2.3: each of the sizes, and one more.
func TestCheckSizes(t *testing.T) {
	many := slices.Repeat[[]lit]
	param, set, bind := of(api.ParamNode, "a", intType), of(api.SetNode, "", of(api.BindNode, "a"), one), of(api.BindNode, "a")
	first, next, give, cell := of(api.InitNode, "a", one), of(api.NextNode, "a", one), of(api.GiveNode, "", one), of(api.CellNode, "", of(api.BoundNode, ""), one)
	loop := func(l ...[]lit) lit { return of(api.LoopNode, "", slices.Concat(l...)...) }
	for i, x := range []struct {
		make     func(n int) lit
		from, to int
	}{
		{func(n int) lit {
			return of(api.DefItem, "f", slices.Concat(many([]lit{param}, n), []lit{intType, block(one)})...)
		}, 0, 5},
		{func(n int) lit {
			return of(api.DefItem, "f", slices.Concat(many([]lit{intType}, n), []lit{block(one)})...)
		}, 1, 4},
		{func(n int) lit { return of(api.CallNode, "f", many([]lit{one}, n)...) }, 0, 5},
		{func(n int) lit { return block(many([]lit{one}, n)...) }, 1, 4},
		{func(n int) lit { return block(append(many([]lit{set}, n), one)...) }, 0, 12},
		{func(n int) lit { return of(api.SetNode, "", append(many([]lit{bind}, n), one)...) }, 1, 4},
		{func(n int) lit { return of(api.GiveNode, "", many([]lit{one}, n)...) }, 1, 4},
		{func(n int) lit { return loop(many([]lit{first}, n), []lit{one, give}) }, 1, 5},
		{func(n int) lit { return loop([]lit{first, one}, many([]lit{set}, n), []lit{give}) }, 0, 12},
		{func(n int) lit { return loop([]lit{first, one}, many([]lit{next}, n), []lit{give}) }, 0, 5},
		{func(n int) lit { return of(api.ArrayNode, "", append([]lit{one}, many([]lit{cell}, n)...)...) }, 1, 8},
		{func(n int) lit { return step(n, of(api.ArrayNode, "", one, cell)) }, 0, 100},
		{func(n int) lit { return step(n, of(api.BoundNode, "#")) }, 0, 100},
		{func(n int) lit { return step(n, of(api.BoundNode, "")) }, 0, 100},
		{func(n int) lit {
			return step(n, of(api.SpanNode, "a", of(api.BoundNode, ""), of(api.BoundNode, ""), one))
		}, 1, 9},
	} {
		for n := max(0, x.from-1); n <= x.to+1; n++ {
			if e := check(t, x.make(n).around()); (e == api.OK) != (n >= x.from && n <= x.to) {
				t.Error(i, n, e)
			}
		}
	}
}

// P2.3: the order of nodes, and the items.
func TestCheckOrder(t *testing.T) {
	const s = "def f(a: int) -> int { b = a; give b + 1 } def g() -> int { give 2 }"
	for i, x := range []struct {
		change func(x *api.Tree)
		e      api.Errno
	}{
		{func(x *api.Tree) {}, api.OK},
		{func(x *api.Tree) { x.Nodes[8].Kids = []int{7, 6} }, api.ErrForm}, {func(x *api.Tree) { x.Nodes[8].Kids = []int{6, 6} }, api.ErrForm}, {func(x *api.Tree) { x.Nodes[8].Kids = []int{4, 7} }, api.ErrForm}, {func(x *api.Tree) { x.Nodes[8].Kids = []int{6, 8} }, api.ErrForm}, {func(x *api.Tree) { x.Nodes[8].Kids = []int{6, 9} }, api.ErrForm}, {func(x *api.Tree) { x.Nodes[8].Kids = []int{-1, 7} }, api.ErrForm}, {func(x *api.Tree) { x.Nodes[8].Kids = []int{6, 15} }, api.ErrForm}, {func(x *api.Tree) { x.Nodes[8].Kids = []int{math.MinInt, math.MaxInt} }, api.ErrForm}, {func(x *api.Tree) { x.Nodes[8].Kids = nil }, api.ErrForm}, {func(x *api.Tree) { x.Nodes[8].Kids = make([]int, 5000) }, api.ErrForm},
		{func(x *api.Tree) { x.Nodes[6], x.Nodes[7] = x.Nodes[7], x.Nodes[6] }, api.OK}, {func(x *api.Tree) { x.Nodes[7], x.Nodes[8] = x.Nodes[8], x.Nodes[7] }, api.ErrForm},
		// The same tree, with the nodes in another order in which each stands behind its kids.
		{func(x *api.Tree) {
			x.Nodes[2], x.Nodes[1] = x.Nodes[1], x.Nodes[2]
			x.Nodes[10].Kids = []int{2, 1, 9}
		}, api.ErrForm},
		{func(x *api.Tree) {
			x.Nodes[6], x.Nodes[5] = x.Nodes[5], x.Nodes[6]
			x.Nodes[8].Kids, x.Nodes[9].Kids = []int{5, 7}, []int{6, 8}
		}, api.ErrForm},
		// Nodes in no item, or in two.
		{func(x *api.Tree) { x.Nodes = append([]api.TreeNode{{Kind: api.IntType}}, x.Nodes...) }, api.ErrForm}, {func(x *api.Tree) { x.Nodes = append(x.Nodes, api.TreeNode{Kind: api.NumNode}) }, api.ErrForm}, {func(x *api.Tree) { x.Nodes = x.Nodes[:14] }, api.ErrForm}, {func(x *api.Tree) { x.Nodes = x.Nodes[:11] }, api.ErrForm}, {func(x *api.Tree) { x.Nodes = nil }, api.ErrForm}, {func(x *api.Tree) { x.Nodes[14].Kids = []int{10, 11, 13} }, api.ErrForm}, {func(x *api.Tree) { x.Nodes[14].Kids = []int{2, 13} }, api.ErrForm},
		{func(x *api.Tree) { x.Items = nil }, api.ErrForm}, {func(x *api.Tree) { x.Items = []int{14} }, api.ErrForm}, {func(x *api.Tree) { x.Items = []int{10} }, api.ErrForm}, {func(x *api.Tree) { x.Items = []int{14, 10} }, api.ErrForm}, {func(x *api.Tree) { x.Items = []int{10, 10, 14} }, api.ErrForm}, {func(x *api.Tree) { x.Items = []int{10, 13} }, api.ErrForm}, {func(x *api.Tree) { x.Items = []int{9, 10, 14} }, api.ErrForm}, {func(x *api.Tree) { x.Items = []int{10, 15} }, api.ErrForm}, {func(x *api.Tree) { x.Items = []int{-1, 10, 14} }, api.ErrForm}, {func(x *api.Tree) { x.Nodes, x.Items = x.Nodes[:11], []int{10} }, api.OK}, {func(x *api.Tree) { x.Nodes, x.Items = nil, nil }, api.OK}, {func(x *api.Tree) { x.Nodes, x.Items = x.Nodes[:10], []int{9} }, api.ErrForm}, {func(x *api.Tree) { x.Nodes, x.Items = []api.TreeNode{{Kind: api.NumNode}}, []int{0} }, api.ErrForm},
	} {
		y := tree(t, s)
		x.change(&y)
		if e := check(t, y); e != x.e {
			t.Error(i, e)
		}
	}
}

// P2.3: random changes in one place or more of random trees.
func TestCheckRandom(t *testing.T) {
	r := rand.New(rand.NewSource(5))
	bad := 0
	for range 6000 {
		x, _ := grown(r, 3, 2)
		for range 1 + r.Intn(2) {
			changed(r, &x)
		}
		if check(t, x) != api.OK {
			bad++
		}
	}
	if bad < 2000 || bad > 5500 {
		t.Error(bad)
	}
}

// changed changes something of a tree.
func changed(r *rand.Rand, x *api.Tree) {
	if len(x.Nodes) == 0 || r.Intn(15) == 0 {
		number := r.Intn(len(x.Nodes)+2) - 1
		x.Items = append(x.Items, number)
		slices.Sort(x.Items)
		return
	}
	i := r.Intn(len(x.Nodes))
	n := &x.Nodes[i]
	switch r.Intn(10) {
	case 0:
		n.Kind = uint8(r.Intn(70))
	case 1:
		n.Kind = n.Kind%28 + 1
	case 2:
		n.Text = []string{"", "a", "#", "if", "b1"}[r.Intn(5)]
	case 3:
		n.N += r.Intn(3) - 1
	case 4:
		n.At = r.Intn(3000) - 100
	case 5:
		if len(n.Kids) > 0 {
			n.Kids[r.Intn(len(n.Kids))] += r.Intn(3) - 1
		}
	case 6:
		if len(n.Kids) > 1 {
			n.Kids = n.Kids[1:]
		}
	case 7:
		n.Kids = append(n.Kids, i-1)
	case 8:
		k := r.Intn(len(x.Nodes))
		*n, x.Nodes[k] = x.Nodes[k], *n
	case 9:
		x.Nodes = slices.Delete(x.Nodes, i, i+1)
	}
}

// chain is a tree so deep, and with so many nodes in all, that has its form.
func chain(deep, all int) api.Tree {
	l := one
	for range deep - 3 {
		l = of(api.NegNode, "", l)
	}
	items := []lit{of(api.DefItem, "f", intType, block(l))}
	if left := all - deep - 1; left > 0 {
		items = append(items, flat(left)...)
	}
	return built(items...)
}

// flat are items that have so many nodes.
func flat(nodes int) (l []lit) {
	for nodes > 0 {
		n := min(nodes, 60)
		if nodes-n > 0 && nodes-n < 4 {
			n -= 4
		}
		var sets []lit
		left := n - 4
		for ; left >= 4; left -= 4 {
			sets = append(sets, of(api.SetNode, "", of(api.BindNode, "a"), of(api.NegNode, "", one)))
			if len(sets) == 12 {
				left -= 4
				break
			}
		}
		last := slices.Repeat([]lit{one}, 1)
		for ; left > 0; left-- {
			last[0] = of(api.NegNode, "", last[0])
		}
		l = append(l, of(api.DefItem, "f", intType, block(append(sets, last...)...)))
		nodes -= n
	}
	return l
}

// P2.3, R1: the limits, each of them and one more; those of nodes and items come before the form, this before how deep a tree is.
func TestCheckLimits(t *testing.T) {
	bad := func(x api.Tree) api.Tree {
		x.Nodes[0].Kind = 0
		return x
	}
	def := of(api.DefItem, "f", intType, block(one))
	items := func(n int) api.Tree { return built(slices.Repeat([]lit{def}, n)...) }
	for i, x := range []struct {
		t api.Tree
		e api.Errno
	}{
		{api.Tree{}, api.OK}, {items(20), api.OK}, {items(21), api.ErrLimit}, {built(flat(700)...), api.OK}, {built(flat(701)...), api.ErrLimit}, {chain(30, 0), api.OK}, {chain(31, 0), api.ErrLimit}, {chain(30, 700), api.OK}, {chain(31, 700), api.ErrLimit}, {chain(30, 701), api.ErrLimit},
		{bad(items(20)), api.ErrForm}, {bad(items(21)), api.ErrLimit}, {bad(built(flat(700)...)), api.ErrForm}, {bad(built(flat(701)...)), api.ErrLimit}, {bad(chain(31, 0)), api.ErrForm}, {bad(chain(31, 701)), api.ErrLimit}, {api.Tree{Nodes: make([]api.TreeNode, 700)}, api.ErrForm}, {api.Tree{Nodes: make([]api.TreeNode, 701)}, api.ErrLimit}, {api.Tree{Items: make([]int, 20)}, api.ErrForm}, {api.Tree{Items: make([]int, 21)}, api.ErrLimit}, {api.Tree{Nodes: make([]api.TreeNode, 701), Items: make([]int, 21)}, api.ErrLimit},
		{built(chain30(31), def), api.ErrLimit}, {built(def, chain30(31)), api.ErrLimit}, {built(def, chain30(30), chain30(30)), api.OK},
	} {
		if e := check(t, x.t); e != x.e {
			t.Error(i, len(x.t.Nodes), len(x.t.Items), e)
		}
		// All functions with trees have these errors first.
		for name, e := range errorsOf(t, x.t) {
			if x.e != api.OK && e != x.e || x.e == api.OK && name == "Check" && e != api.OK {
				t.Error(i, name, e)
			}
		}
	}
	for _, n := range []int{4, 60, 699, 700, 701} {
		if x := built(flat(n)...); len(x.Nodes) != n {
			t.Error(n, len(x.Nodes))
		}
	}
}

// chain30 is an item so deep.
func chain30(deep int) lit {
	l := of(api.StreamType, "", intType)
	for range deep - 3 {
		l = of(api.StreamType, "", l)
	}
	return of(api.DefItem, "f", l, block(one))
}

// P2.3, R1: of two trees the errors of the first one come first.
func TestCheckBoth(t *testing.T) {
	good, form, limit := tree(t, def("1")), api.Tree{Items: []int{0}}, api.Tree{Items: make([]int, 21)}
	all := map[string]api.Tree{"good": good, "form": form, "limit": limit, "deep": chain(31, 0)}
	want := map[string]api.Errno{"good": api.OK, "form": api.ErrForm, "limit": api.ErrLimit, "deep": api.ErrLimit}
	for a, x := range all {
		for b, y := range all {
			e := want[a]
			if e == api.OK {
				e = want[b]
			}
			z, f := parse.Join(x, y)
			same, g := parse.Same(x, y)
			if f != e || g != e || e != api.OK && (len(z.Nodes)+len(z.Items) != 0 || same) {
				t.Error(a, b, f, g)
			}
		}
	}
}

// P2.3: what is read has its form, and what is wrong in all functions.
func TestCheckParsed(t *testing.T) {
	r := rand.New(rand.NewSource(6))
	for range 300 {
		x, s := grown(r, 4, 3)
		if e := check(t, x); e != api.OK || parse.Check(tree(t, s)) != api.OK {
			t.Fatal(s, e)
		}
		changed(r, &x)
		want := parse.Check(x)
		for name, e := range errorsOf(t, x) {
			if want != api.OK && e != want {
				t.Fatal(name, toldTree(x), e, want)
			}
		}
	}
	for name, e := range errorsOf(t, tree(t, def("1"))) {
		want := api.OK
		if strings.Contains("Show Parent First Kin Find Cut", name) {
			want = api.ErrNone
		} else if name == "Join" || name == "Same" {
			want = api.ErrForm
		}
		if e != want {
			t.Error(fmt.Sprint(name, e))
		}
	}
}
