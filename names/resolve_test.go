package names_test

import (
	"slices"
	"strings"
	"testing"

	"floodgate/api"
	"floodgate/names"
	"floodgate/parse"
)

// meanings resolves a marked text, and tells for each marked node how manieth marked node it means, or -1.
func meanings(t *testing.T, s string) []int {
	t.Helper()
	x, nodes := marked(t, s)
	k, node, e := names.Resolve(x)
	if node != 0 || e != api.OK || len(k.Of) != len(x.Nodes) {
		t.Fatal(s, node, e)
	}
	for i, of := range k.Of {
		if means := isKind(x, i, api.NameNode, api.CallNode, api.NextNode); means == (of < 0) || of < -1 {
			t.Error(s, i, of)
		}
	}
	var l []int
	for _, i := range nodes {
		l = append(l, slices.Index(nodes, k.Of[i]))
	}
	return l
}

// P3.1: what nodes mean: each kind of declaration, and each kind of node that means something.
func TestMeanings(t *testing.T) {
	for i, x := range []struct {
		s    string
		want []int
	}{
		{"def main() -> int { ^x = ^y + 1; ^y = head(^s); ^s = 2 :: ^r; ^r = 3 :: ^s; give ^x }", n(-1, 2, -1, 4, -1, 6, -1, 4, 0)},
		{"def f(^a: int, ^b: int) -> int { give ^b - ^a ^- ^b }", n(-1, -1, 1, 0, -1, 1)},
		{def("^b, ^c: int = 1 :: ^c; give ^c, ^b"), n(-1, -1, 1, 1, 0)},
		{"^def f() -> int { give ^g(^f()) } ^def g(a: int) -> int { give ^g(1) }", n(-1, 3, 0, -1, 3)},
		{"^def f(^f: int) -> int { ^g = ^f(^f); give ^g(^g) } ^def g(^f: int) -> int { give ^f }", n(-1, -1, -1, 0, 1, 7, 2, -1, -1, 8)},
		{def("give loop(^i := 1, ^j := 2) while ^i < ^j do { ^b = ^i; ^next j = ^b + ^j; ^next i = ^j; } give(^i, ^j)"), n(-1, -1, 0, 1, -1, 0, 1, 4, 1, 0, 1, 0, 1)},
		{def("give loop(^i := 1) while ^i < 1 do { ^next i = loop(^j := ^i) while ^j < ^i do { ^next j = ^i; } give(^j); } give(^i)"), n(-1, 0, 0, -1, 0, 3, 0, 3, 0, 3, 0)},
		{def("give array(a) { ^[k in 0..# - 1] = ^k + a; ^[l in 1..2] = ^l; [0] = a }"), n(-1, 0, -1, 2)},
		{"def f(^a: int) -> int { give loop(i := ^a) while ^a < 1 do { b = ^a; next i = ^a; } give(if true { c = ^a; give ^a } else { give array(^a) { [0] = ^a; [j in 0..1] = ^a }[^a] }) }", n(-1, 0, 0, 0, 0, 0, 0, 0, 0, 0, 0)},
	} {
		if l := meanings(t, x.s); !slices.Equal(l, x.want) {
			t.Error(i, x.s, l)
		}
	}
}

// P3.1: a declaration is in sight before it, and in all that is in its block.
func TestBeforeDefinition(t *testing.T) {
	const s = "c = if ^b < 1 { give ^b } else { d = ^b; give d }; e = loop(i := ^b) while i < ^b do { g = ^b; next i = ^b; } give(^b); h = array(^b) { [0] = ^b; [k in 0..1] = ^b }; ^b = 1; give ^b"
	l := meanings(t, def(s))
	want := slices.Repeat(n(11), len(l))
	want[11] = -1
	if !slices.Equal(l, want) || len(l) != 13 {
		t.Error(l)
	}
}

// wrong compares the error of a text with one marked node, or none, with the one that is wanted there.
func wrong(t *testing.T, s string, want api.Errno) {
	t.Helper()
	x, nodes := marked(t, s)
	if len(nodes) == 0 {
		nodes = n(0)
	}
	k, node, e := names.Resolve(x)
	if node != nodes[0] || e != want || e != api.OK && len(k.Of) != 0 {
		t.Error(s, nodes, node, e)
	}
}

func loop(init, stmts string) string {
	return def("give loop(" + init + ") while true do { " + stmts + " } give(1)")
}

// P3.1: a name that is there twice in an item, and the same name in other items, or of an item.
func TestTwice(t *testing.T) {
	for _, s := range []string{
		"def f(a: int, ^a: int) -> int { give 1 }", "def f(a: int, b: int, c: int, ^b: int) -> int { give 1 }",
		def("^a = 1; give a"), def("b = 1; ^b = 2; give a"), def("b, ^b = f(1); give a"), def("b = 1; c, ^b: int = f(1); give a"),
		loop("^a := 1", ""), loop("i := 1, ^i := 2", ""), loop("i := 1", "^i = 2;"), loop("i := 1", "b = 2; ^b = 3;"), loop("i := 1", "^a = 2;"),
		def("b = loop(^b := 1) while true do { } give(1); give 1"), def("b = loop(i := 1) while true do { ^b = 2; } give(1); give 1"),
		def("b = loop(i := 1) while true do { } give(1); c = loop(^i := 1) while true do { } give(1); give 1"),
		loop("i := 1", "next i = loop(^i := 1) while true do { } give(1);"), loop("^i := loop(i := 1) while true do { } give(1)", ""),
		def("b = if true { c = 1; give c } else { ^c = 2; give c }; give b"), def("b = if true { c = 1; give c } else { give 1 }; ^c = 2; give b"), def("b = if true { ^b = 1; give b } else { give 1 }; give b"),
		def("give array(1) { ^[a in 0..1] = 1 }[0]"), def("give array(1) { [k in 0..1] = 1; ^[k in 2..3] = 1 }[0]"), def("b = array(1) { ^[b in 0..1] = 1 }; give 1"), def("give array(1) { [k in 0..1] = 1 }[array(1) { ^[k in 0..1] = 1 }[0]]"),
		def("give array(1) { ^[k in 0..1] = loop(k := 1) while true do { } give(1) }[0]"),
		def("give 1") + " ^" + def("give 1"), def("give 1") + " def g() -> int { give 1 } def h() -> int { give 1 } ^" + "def g() -> int { give 1 }",
		loop("i := 1", "next i = 1; ^next i = 2;"), loop("i := 1, j := 1", "next i = 1; next j = 2; ^next i = 3;"),
	} {
		wrong(t, s, api.ErrTwice)
	}
	for _, s := range []string{
		def("b = 1; give b") + " def g(a: int) -> int { b = 1; give b + a }",
		"def f(f: int) -> int { give f }", "def f() -> int { g = 1; give g } def g() -> int { f = 1; give f }", "def f() -> int { give loop(f := 1) while true do { } give(array(1) { [g in 0..1] = 1 }[0]) } def g() -> int { give 1 }",
		loop("i := 1, j := 1", "next j = 1; next i = 2;"), loop("i := 1", "next i = loop(j := 1) while true do { next j = 1; } give(1);"),
		def("b = loop(i := 1) while true do { next i = 1; } give(1); c = loop(j := 1) while true do { next j = 1; } give(1); give b"),
	} {
		wrong(t, s, api.OK)
	}
}

// P3.1: names that mean nothing, since nothing has them, or not in sight.
func TestNameless(t *testing.T) {
	for _, s := range []string{
		def("give ^b"), def("give ^g(1)"), def("give ^a(1)"), def("give ^f"), def("b = ^f; give b"), def("give a + ^f + f(1)"),
		"def f(a: int) -> int { give 1 } def g() -> int { give ^a }", "def f() -> int { b = 1; give b } def g() -> int { give ^b }", "def f() -> int { give ^b } def g(b: int) -> int { give 1 }",
		// out of the block of its definition
		def("b = if true { c = 1; give c } else { give ^c }; give b"), def("b = if ^c { c = 1; give c } else { give 1 }; give b"), def("b = if true { c = 1; give c } else { give 1 }; give ^c"), def("b = if true { c = 1; give c } else { give 1 }; d = ^c; give b"), def("b = if true { give ^c } else { c = 1; give c }; give b"), def("d = ^c; b = if true { give 1 } else { c = 1; give c }; give b"),
		// a BindNode of a loop, in its InitNodes, condition and GiveNode, and around it
		loop("i := ^b", "b = 1;"), def("give loop(i := 1) while ^b < 1 do { b = i; } give(1)"), def("give loop(i := 1) while true do { b = i; } give(^b)"), def("give loop(i := 1) while true do { b = i; } give(1, i + ^b)"), def("c = loop(i := 1) while true do { b = i; } give(i); give ^b"), def("c = loop(i := 1) while true do { b = i; } give(i); d = ^b; give 1"),
		// an InitNode in the InitNodes, and around its loop
		loop("i := ^i", ""), loop("i := ^j, j := 1", ""), loop("i := 1, j := ^i", ""), def("b = loop(i := 1) while true do { } give(i); give ^i"), def("b = ^i; c = loop(i := 1) while true do { } give(i); give b"),
		// a SpanNode outside of its expr
		def("give array(^k) { [k in 0..1] = k }[0]"), def("give array(1) { [0] = ^k; [k in 0..1] = k }[0]"), def("give array(1) { [k in 0..1] = k; [l in 2..3] = ^k }[0]"), def("give array(1) { [k in 0..1] = k; [9] = ^k }[0]"), def("give array(1) { [k in 0..1] = k }[^k]"), def("b = array(1) { [k in 0..1] = k }; give ^k"),
		// nexts of no InitNode, or one of another loop
		loop("i := 1", "^next b = 1;"), loop("i := 1", "^next a = 1;"), loop("i := 1", "b = 1; ^next b = 1;"), loop("i := 1", "next i = loop(j := 1) while true do { ^next i = 1; } give(1);"), def("give loop(i := loop(j := 1) while true do { } give(1)) while true do { ^next j = 1; } give(1)"), loop("i := 1", "b = loop(j := 1) while true do { } give(1); ^next j = 1;"), loop("i := 1", "^next f = 1;"),
	} {
		wrong(t, s, api.ErrName)
	}
	for _, s := range []string{
		"", def("give a"), loop("i := a", "b = c; c = i; next i = b;"), def("give loop(i := 1) while i < a do { } give(i + a)"), def("give array(a) { [k in 0..1] = k + a; [2] = a }[a]"),
		def("give loop(i := 1) while loop(j := i) while true do { next j = i + j; } give(j) do { next i = i; } give(loop(k := i) while k < i do { } give(k))"),
		def("give array(array(a) { [l in 0..1] = l }[a]) { [k in 0..1] = array(k) { [m in 0..1] = k + m }[k] }[0]"),
	} {
		wrong(t, s, api.OK)
	}
}

// P3.1: stmts that need themselves at once, directly and over others, in blocks and loops.
func TestKnots(t *testing.T) {
	for _, s := range []string{
		def("x ^= x + 1; give x"), def("x ^= x; give x"), def("x ^= y; y = x; give x"), def("x ^= y; y = z; z = -x; give x"), def("w = x; x = y; y ^= z; z = y + v; v = a; give x"), def("w ^= x; x = y; y = z; z = y + w; give x"), def("x = 1; y = x; z ^= x + y + z; give x"), def("x, y ^= f(y); give x"), def("y, x ^= f(y); give x"),
		def("s ^= tail(s); give 1"), def("x ^= f(x); give x"), def("x ^= array(x) { [0] = 1 }; give 1"), def("x ^= array(1) { [0] = x }[x[0]]; give 1"), def("x ^= not empty(x); give 1"), def("x ^= size(x); give 1"),
		def("x ^= if x { give 1 } else { give 2 }; give 1"), def("x ^= if true { give 1 } else { give x }; give 1"), def("x ^= if true { y = x; give 1 } else { give 1 }; give x"), def("x ^= if true { give 1 } else { y = if true { z = y2; give 1 } else { give 2 }; y2 = x; give y }; give x"),
		def("x ^= y; y = if true { z = x; give 1 } else { give 2 }; give 1"),
		// the inside of a loop
		def("s ^= loop(i := 0) while i < 2 do { next i = head(s); } give(1 :: s); give s"), def("s ^= loop(i := 0) while s do { } give(1); give s"), def("s ^= loop(i := 0) while true do { b = s; } give(1); give s"), def("s ^= loop(i := 0) while true do { next i = s; } give(1); give s"), def("s ^= loop(i := 0) while true do { } give(s); give s"), def("s ^= loop(i := 0) while true do { } give(1 :: s); give s"), def("s ^= loop(i := 0) while true do { next i = array(1) { [0] = s }; } give(1); give s"), def("s ^= loop(i := s) while true do { } give(1); give s"), def("s ^= loop(i := 0) while true do { b = 1 :: s; } give(1); give s"), def("s ^= head(loop(i := 0) while true do { } give(loop(j := 1 :: s) while true do { } give(1))); give s"),
		// in a loop
		loop("i := 0", "x ^= x;"), loop("i := 0", "x ^= y; y = x;"), def("give loop(i := 0) while true do { x ^= y; y = x; } give(i)"), def("s = 1 :: loop(i := 0) while true do { x ^= x + i; } give(i); give 1"), def("s = 1 :: if true { x ^= x; give x } else { give 1 }; give 1"), loop("i := 0", "next i = if true { x ^= x; give 1 } else { give 2 };"),
		// the first one by numbers
		def("x = if true { y ^= y; give x } else { give 1 }; give 1"), def("y = 1; x ^= x; z = z; give 1"), def("y = z; x ^= x; z = z; give 1"), def("y ^= z; x = x; z = y; give 1"), def("x ^= x; give 1") + "def g() -> int { x = x; give 1 }",
	} {
		wrong(t, s, api.ErrState)
	}
	for _, s := range []string{
		def("s = 1 :: s; give 1"), def("s = s :: 1; give 1"), def("s = s :: s; give 1"), def("s = -(1 + f(1 :: s)); give 1"), def("s = 1 :: (1 + head(tail(s))); give 1"), def("s = tail(1 :: s); give 1"),
		def("s = loop(r := 1 :: s) while false do { } give(r); give s"), def("s = 1 :: loop(r := s) while s do { b = s; next r = s; } give(s); give 1"), def("x = array(1) { [0] = x[1] }; give 1"), def("x = array(1) { [k in 0..1] = x[k] + loop(i := x) while x do { } give(x) }; give 1"), def("s = loop(r := loop(q := array(1) { [0] = s }) while true do { } give(q)) while true do { } give(r); give s"),
		def("x = head(s); s = x :: s; give x"), def("s = if true { t = 2 :: s; give t } else { give s2 }; s2 = 3 :: s; give 1"), def("s = 1 :: if s { t = s; give t } else { give s }; give 1"), loop("i := 0", "s = i :: s; x = head(s); next i = x;"), loop("i := 0", "x = 1 :: y; y = 2 :: x;"),
		def("x = y; y = z; z = a; give x"), def("x = if true { y = 1; give y } else { give 2 }; z = x; give z"), def("x = loop(i := 0) while true do { y = i; next i = y; } give(i); give x"), "def f(x: int) -> int { y = x; give y } def g(y: int) -> int { x = y; give x }",
	} {
		wrong(t, s, api.OK)
	}
}

// P3.1: the first node that has an error counts, and ErrState comes behind all others.
func TestOrderOfErrors(t *testing.T) {
	for _, x := range []struct {
		s    string
		want api.Errno
	}{
		{def("b = ^c; b = 1; give d"), api.ErrName}, {def("b = 1; ^b = c; give d"), api.ErrTwice}, {def("b = ^g(1); b = h(1); give 1"), api.ErrName},
		// numbers are those of the order in which nodes end
		{loop("a := ^b", ""), api.ErrName}, {loop("^a := 1", "c = b;"), api.ErrTwice}, {loop("i := 1", "next i = 1; next i = ^b;"), api.ErrName}, {loop("i := 1", "next b = ^c; next b = 1;"), api.ErrName}, {loop("i := 1", "^next b = 1; next b = 1;"), api.ErrName}, {loop("i := 1", "next i = 1; ^next i = 1; next b = 1;"), api.ErrTwice},
		{def("give array(1) { [a in 0..1] = ^b }[0]"), api.ErrName}, {def("give array(1) { ^[a in 0..1] = a }[b]"), api.ErrTwice}, {def("give ^g(1)") + def("give h(1)"), api.ErrName}, {def("give 1") + def("give ^b"), api.ErrName}, {def("give 1") + "^" + def("give 1") + def("give b"), api.ErrTwice},
		{def("give g(^h())"), api.ErrName}, {def("give g(^b)"), api.ErrName},
		// two declarations that are in sight are more than nothing
		{def("c = b; b = 1; ^b = 2; give b"), api.ErrTwice},
		{def("x = x; give ^b"), api.ErrName}, {def("x = x; ^x = 1; give x"), api.ErrTwice}, {def("x = x; give x") + "^" + def("give 1"), api.ErrTwice}, {def("x ^= x; y = y; give x"), api.ErrState},
	} {
		wrong(t, x.s, x.want)
	}
}

// P3.1: the errors of parse.Check come first, with 0, and so do all errors of Resolve in all other functions.
func TestErrorsFirst(t *testing.T) {
	right := tree(t, def("give b"))
	form, limit := clone(right, 0), clone(right, 0)
	form.Nodes[1].At = -1
	for len(limit.Nodes) <= api.MaxNodes {
		limit.Nodes = append(limit.Nodes, limit.Nodes...)
	}
	deep := deeper(right, find(right, api.NameNode)[0])
	for i, x := range []struct {
		tree api.Tree
		want api.Errno
	}{
		{api.Tree{Items: n(3)}, api.ErrForm}, {api.Tree{Items: slices.Repeat(n(3), api.MaxDefs+1)}, api.ErrLimit}, {form, api.ErrForm}, {limit, api.ErrLimit}, {deep, api.ErrLimit}, {right, api.ErrName},
		{tree(t, def("a = 1; give 1")), api.ErrTwice}, {tree(t, def("b = b; give 1")), api.ErrState},
	} {
		if e := parse.Check(x.tree); i < 5 && e != x.want || i >= 5 && e != api.OK {
			t.Fatal(i, e)
		}
		if _, node, e := names.Resolve(x.tree); i < 5 && node != 0 || e != x.want {
			t.Error(i, node, e)
		}
		for name, e := range errorsOf(t, x.tree) {
			if e != x.want {
				t.Error(i, name, e)
			}
		}
	}
	for name, e := range errorsOf(t, tree(t, def("give a"))) {
		if want := name != "Resolve" && name != "Dead"; want != (e == api.ErrNone) || !want && e != api.OK {
			t.Error(name, e)
		}
	}
}

// deeper puts NegNodes around a node, until the tree is too deep.
func deeper(x api.Tree, node int) api.Tree {
	l := knots(x)
	k := l[node]
	for parse.Check(flat(tops(l))) == api.OK {
		neg := &knot{TreeNode: api.TreeNode{Kind: api.NegNode}, kids: list(k), up: k.up}
		k.up.kids[slices.Index(k.up.kids, k)] = neg
		k.up = neg
	}
	return flat(tops(l))
}

// P3.1, R7: the greatest trees there may be, in nodes, items and depth.
func TestGreatest(t *testing.T) {
	var items []string
	for i := range api.MaxDefs {
		items = append(items, "def "+string(rune('a'+i))+"(x: int) -> int { give "+string(rune('a'+(i+1)%api.MaxDefs))+"(x) }")
	}
	x := tree(t, strings.Join(items, " "))
	k, _, e := names.Resolve(x)
	if e != api.OK || len(k.Of) != len(x.Nodes) {
		t.Fatal(e)
	}
	for i := range x.Items {
		if l, e := names.Calls(x, i); !slices.Equal(l, n((i+1)%api.MaxDefs)) || e != api.OK {
			t.Error(i, l, e)
		}
	}
	full := tree(t, def("give a + a + a"))
	l := knots(full)
	give, name := l[len(l)-2], l[3].TreeNode
	for {
		leaf := shallow(give)
		leaf.TreeNode, leaf.kids = api.TreeNode{Kind: api.AddNode}, list(&knot{TreeNode: name}, &knot{TreeNode: name})
		if y := flat(tops(l)); len(y.Nodes) > api.MaxNodes-2 {
			full = y
			break
		}
	}
	if l := len(full.Nodes); l < api.MaxNodes-1 || l > api.MaxNodes {
		t.Fatal(l)
	}
	k, _, e = names.Resolve(full)
	uses, f := names.Uses(full, 1)
	if e != api.OK || f != api.OK || len(k.Of) != len(full.Nodes) || !slices.Equal(uses, find(full, api.NameNode)) {
		t.Error(e, f, len(uses))
	}
}

// shallow is the first leaf that is least deep.
func shallow(k *knot) *knot {
	row := list(k)
	for {
		var next []*knot
		for _, k := range row {
			if k.Kind == api.NameNode {
				return k
			}
			next = append(next, k.kids...)
		}
		row = next
	}
}
