package names_test

import (
	"slices"
	"strings"
	"testing"

	"floodgate/api"
	"floodgate/names"
	"floodgate/parse"
)

// lister is a function that tells a list of a node.
type lister func(api.Tree, int) ([]int, api.Errno)

// asked asks of marked nodes, and compares each answer with a list of marked nodes; both are told by how manieth they are.
func asked(t *testing.T, f lister, s string, want map[int][]int) {
	t.Helper()
	x, nodes := marked(t, s)
	for i, l := range want {
		if got, e := f(x, nodes[i]); !slices.Equal(got, some(nodes, l...)) || e != api.OK {
			t.Error(s, i, nodes[i], got, e, some(nodes, l...))
		}
	}
}

// nothing asks of all nodes that are not such ones.
func nothing(t *testing.T, f lister, s string, is func(x api.Tree, node int) bool) {
	t.Helper()
	x := tree(t, s)
	for _, i := range all(x) {
		l, e := f(x, i)
		if is(x, i) != (e == api.OK) || e != api.OK && (e != api.ErrNone || len(l) != 0) {
			t.Error(s, i, l, e)
		}
	}
}

// everything has each kind of node.
const everything = "def main(a: int, g: stream [bool]) -> int, bool { " +
	"b: int, c = f(a + 1, head(g)[0]); d = not (1 < 2) and 1 <= 2 or 1 > 2 and 1 >= 2 and 1 == 2 and 1 != 2; " +
	"h = loop(i := b, j := nil(int)) while i * 2 - 1 < b / 2 % 3 do { k = i; next i = k; } give(size(m), tail(j), i); " +
	"m = array(-b, 1) { [0] = d; [n in 1..# - 1 by 2] = not m[n - 1] or empty(1 :: h) }; " +
	"give if true { e = b; give e } else { give a }, false } def f(a: int, b: [bool]) -> int, int { give a, a }"

// P3.2: the nodes that mean a declaration, of each kind; ErrNone of other nodes.
func TestUses(t *testing.T) {
	asked(t, names.Uses, "def f(^a: int) -> int { ^b = ^c; ^c = ^a; give if ^b < 1 { ^d = 1; give ^d } else { give loop(^i := ^b) while ^i < ^c do { ^e = ^i; ^next i = ^e; } give(^i) } }", map[int][]int{
		0: n(4), 1: n(5, 9), 3: n(2, 11), 6: n(7), 8: n(10, 13, 14, 16), 12: n(15),
	})
	asked(t, names.Uses, "^def f(^f: int) -> int { ^g = ^f(^f); give ^g(^g) } ^def g(^f: int) -> int { give ^f(^f(^f)) } ^def main() -> int { give 1 }", map[int][]int{
		0: n(3, 10, 9), 1: n(4), 2: n(6), 7: n(5), 8: n(11), 12: nil,
	})
	asked(t, names.Uses, def("^b = array(1) { ^[k in 0..1] = ^k + ^k; ^[l in 2..3] = ^b[^c] }; ^c = 1; give ^b[0]"), map[int][]int{
		0: n(5, 8), 1: n(2, 3), 4: nil, 7: n(6),
	})
	nothing(t, names.Uses, everything, isDeclaration)
}

// P3.2: what is in sight at expressions of each kind, in each place; ErrNone of other nodes.
func TestSight(t *testing.T) {
	asked(t, names.Sight, "def f(^a: int) -> int { ^b = ^-^c; ^c = ^a; give ^if b ^< ^1 { ^d = ^1; give ^d } else { give ^loop(^i := ^b) while ^i ^< c do { ^e = ^i; next i = ^e; } give(^i) } }", map[int][]int{
		2: n(0, 1, 4), 3: n(0, 1, 4), 5: n(0, 1, 4), 6: n(0, 1, 4), 7: n(0, 1, 4), 8: n(0, 1, 4), 10: n(0, 1, 4, 9), 11: n(0, 1, 4, 9),
		12: n(0, 1, 4), 14: n(0, 1, 4), 15: n(0, 1, 4, 13), 16: n(0, 1, 4, 13), 18: n(0, 1, 4, 13, 17), 19: n(0, 1, 4, 13, 17), 20: n(0, 1, 4, 13),
	})
	asked(t, names.Sight, "def f(^a: int, ^b: int) -> int { give ^array(^size(^1)) { [0] = ^2; ^[k in 0..1] = ^3 + array(^k) { ^[l in 0..1] = ^a; [2] = ^4 }[^a]; ^[m in 0..1] = ^5 }^[^6] } def g(^c: int) -> int { give ^f(^c, ^true) + ^loop(^i := ^1, ^j := ^2) while ^3 < 1 do { ^d, ^e = ^nil(int); } give(^4, ^5) }", map[int][]int{
		2: n(0, 1), 3: n(0, 1), 4: n(0, 1), 5: n(0, 1), 7: n(0, 1, 6), 8: n(0, 1, 6), 10: n(0, 1, 9, 6), 11: n(0, 1, 6), 12: n(0, 1, 6), 14: n(0, 1, 13), 15: n(0, 1), 16: n(0, 1),
		18: n(17), 19: n(17), 20: n(17), 21: n(17), 23: n(17), 25: n(17), 26: n(17, 22, 24), 29: n(17, 22, 24, 27, 28), 30: n(17, 22, 24), 31: n(17, 22, 24),
	})
	asked(t, names.Sight, "def main() -> int { give ^1 }", map[int][]int{0: nil})
	nothing(t, names.Sight, everything, isExpr)
}

// P3.3: which names are late for which stmts.
func TestLate(t *testing.T) {
	for _, s := range []string{
		"b ^= ^1 :: c", "b ^= c :: ^1", "b ^= ^1 :: 2 :: 3", "b ^= -(^1 :: 2)", "b ^= head(1 + ^1 :: 2)", "b ^= f(1 :: f(^1))", "b ^= array(1) { [0] = ^1 }", "b ^= array(1) { [0] = 1; [1] = 2 + ^1 }", "b ^= array(1) { [k in 0..1] = ^1 }", "b ^= array(1) { [k in 0..1] = -^1 }[2]",
		"b ^= if true { give 1 :: ^1 } else { give 2 }", "b ^= if true { give 2 } else { d = 1 :: ^1; give d }", "b ^= 1 :: if ^1 < 1 { give 1 } else { give 2 }", "b ^= 1 :: if true { d = ^1; give d } else { give 2 }", "b ^= array(1) { [0] = if true { d = ^1; give d } else { give 2 } }",
		"b ^= loop(i := 1 :: ^1) while true do { } give(1)", "b ^= loop(i := 1, j := array(1) { [0] = ^1 }) while true do { } give(1)", "b ^= 1 :: loop(i := ^1) while true do { } give(1)", "b ^= 1 :: loop(i := 1) while ^1 < 1 do { } give(1)", "b ^= 1 :: loop(i := 1) while true do { d = ^1; } give(1)", "b ^= 1 :: loop(i := 1) while true do { next i = ^1; } give(1)", "b ^= array(1) { [0] = loop(i := 1) while true do { } give(^1) }", "b ^= loop(i := loop(j := 1 :: ^1) while true do { } give(1)) while true do { } give(1)", "b ^= loop(i := 1 :: loop(j := 1) while ^1 < 2 do { } give(1)) while true do { } give(1)",
		"b = loop(i := 1) while true do { d ^= 1 :: ^1; } give(1)", "b = 1 + loop(i := 1) while true do { d ^= array(1) { [0] = ^1 }; next i = 2; } give(1)",
	} {
		late(t, s, true)
	}
	for _, s := range []string{
		"b ^= ^1", "b ^= -^1", "b ^= 1 + ^1", "b ^= f(^1)", "b ^= ^1[0]", "b ^= array(^1) { [0] = 1 }", "b ^= array(1 + ^1) { [k in 0..1] = 1 }", "b ^= array(1) { [0] = 1 }[^1]", "b, e ^= ^1",
		"b ^= if ^1 < 1 { give 1 } else { give 2 }", "b ^= if true { give ^1 } else { give 2 }", "b ^= if true { d = ^1; give d } else { give 2 }", "b ^= if true { give 1 :: 2 } else { give ^1 }",
		"b ^= loop(i := ^1) while true do { } give(1)", "b ^= loop(i := 1 :: 2, j := ^1) while true do { } give(1)", "b ^= loop(i := 1) while ^1 < 1 do { } give(1)", "b ^= loop(i := 1) while true do { d = ^1; } give(1)", "b ^= loop(i := 1) while true do { next i = ^1; } give(1)", "b ^= loop(i := 1) while true do { } give(^1)",
		"b ^= loop(i := 1) while 1 :: ^1 do { } give(1)", "b ^= loop(i := 1) while true do { d = 1 :: ^1; } give(1)", "b ^= loop(i := 1) while true do { next i = 1 :: ^1; } give(1)", "b ^= loop(i := 1) while true do { } give(1 :: ^1)", "b ^= loop(i := 1) while true do { } give(array(1) { [0] = ^1 })", "b ^= loop(i := 1) while true do { } give(array(1) { [k in 0..1] = ^1 })", "b ^= loop(i := loop(j := 1) while ^1 < 1 do { } give(1)) while true do { } give(1)", "b ^= loop(i := loop(j := 1) while true do { } give(1 :: ^1)) while true do { } give(1)", "b ^= loop(i := 1) while true do { } give(loop(j := 1 :: ^1) while true do { } give(1))", "b ^= loop(i := 1) while true do { } give(1 :: loop(j := ^1) while true do { } give(1))",
		// what is above the stmt does not count
		"b = 1 :: if true { d ^= ^1; give d } else { give 2 }", "b = array(1) { [0] = if true { d ^= -^1; give d } else { give 2 } }", "b = 1 :: loop(i := 1) while true do { d ^= ^1; } give(1)",
	} {
		late(t, s, false)
	}
}

// late asks whether a name, in place of ^1, is late for the stmt that is marked; the name means what may be there: a param, another stmt, or the marked one itself.
func late(t *testing.T, s string, want bool) {
	t.Helper()
	for _, name := range []string{"a", "c"} {
		text := def("c = 1; " + replaced(s, name) + "; give 1")
		x, nodes := marked(t, text)
		if late, e := names.Late(x, nodes[1], nodes[0]); late != want || e != api.OK {
			t.Error(text, late, e)
		}
	}
	self := "b"
	if strings.Contains(s, "d ^=") {
		self = "d"
	}
	x := tree(t, def(unmarked("c = 1; "+replaced(s, self)+"; give 1")))
	if _, node, e := names.Resolve(x); want && e != api.OK || !want && e != api.ErrState {
		t.Error(s, node, e)
	}
}

// P3.3: Late asks for a name and a stmt above it.
func TestLateNone(t *testing.T) {
	x := tree(t, everything)
	o := newOracle(x)
	for _, i := range all(x) {
		for _, set := range append(find(x, api.SetNode), -1, 0, i, len(x.Nodes)-2, len(x.Nodes)) {
			_, e := names.Late(x, i, set)
			if there := isKind(x, i, api.NameNode) && isKind(x, set, api.SetNode) && o.all[set].has(o.all[i]); there != (e == api.OK) || !there && e != api.ErrNone {
				t.Fatal(i, set, e)
			}
		}
	}
}

// P3.3: what stmts need at once: directly, and of the same block or loop alone.
func TestNeeds(t *testing.T) {
	asked(t, names.Needs, "def main() -> int { x ^= y + 1; y ^= head(s); s ^= 2 :: r; r ^= 3 :: s; give x }", map[int][]int{0: n(1), 1: n(2), 2: nil, 3: nil})
	asked(t, names.Needs, def("b ^= e + c - c * d; c ^= a; d, e ^= f(c); h ^= b :: b + d; k ^= (b :: c) + e; give b"), map[int][]int{0: n(1, 2), 1: nil, 2: n(1), 3: nil, 4: n(2)})
	asked(t, names.Needs, def("b ^= 1; c ^= 2; d ^= if b < 1 { e ^= b; g ^= e; h ^= if e < g { k ^= h2; give k } else { give c }; h2 ^= 1; give e } else { l ^= m; m ^= 1; give m }; give d"), map[int][]int{0: nil, 1: nil, 2: n(0, 1), 3: nil, 4: n(3), 5: n(3, 4, 7), 6: nil, 7: nil, 8: n(9), 9: nil})
	asked(t, names.Needs, def("b ^= loop(i := c) while i < d do { e ^= g + h; g ^= i; next i = e + k; } give(i + l); c ^= 1; d ^= 2; h ^= 3; k ^= 4; l ^= 5; give b"), map[int][]int{0: n(3, 4, 5, 6, 7), 1: n(2), 2: nil, 3: nil})
	asked(t, names.Needs, def("b = 1 :: if true { c ^= d; d ^= b; give c } else { give 1 }; give b"), map[int][]int{0: n(1), 1: nil})
	nothing(t, names.Needs, everything, func(x api.Tree, node int) bool { return isKind(x, node, api.SetNode) })
}

// P3.3: the order of stmts.
func TestOrder(t *testing.T) {
	asked(t, names.Order, "def main() -> int ^{ x ^= y + 1; y ^= head(s); s ^= 2 :: r; r ^= 3 :: s; give x }", map[int][]int{0: n(3, 2, 1, 4)})
	for _, x := range []struct {
		s    string
		want map[int][]int
	}{
		{"def f() -> int ^{ give 1 }", map[int][]int{0: nil}},
		{"def f() -> int ^{ b ^= 1; give b }", map[int][]int{0: n(1)}},
		{"def f() -> int ^{ b ^= 1; c ^= 2; d ^= 3; give b }", map[int][]int{0: n(1, 2, 3)}},
		{"def f() -> int ^{ b ^= d; c ^= 2; d ^= 3; give b }", map[int][]int{0: n(2, 3, 1)}},
		{"def f() -> int ^{ b ^= g; c ^= h; d ^= 3; g ^= d; h ^= 1; give b }", map[int][]int{0: n(3, 4, 1, 5, 2)}},
		{"def f() -> int ^{ b ^= l; c ^= b; d ^= c; g ^= d; h ^= g; i ^= h; j ^= i; k ^= j; l ^= 1; give b }", map[int][]int{0: n(9, 1, 2, 3, 4, 5, 6, 7, 8)}},
		{"def f() -> int ^{ b ^= ^loop(i := 1) while true do { c ^= d; d ^= e; e ^= i; next i = c; } give(i) + g; g ^= if true ^{ k ^= m; l ^= k; m ^= 1; give l } else ^{ give 1 }; give b }", map[int][]int{0: n(6, 1), 2: n(5, 4, 3), 7: n(10, 8, 9), 11: nil}},
		{"def f() -> int { give ^loop(i := 1) while true do { } give(i) }", map[int][]int{0: nil}},
	} {
		asked(t, names.Order, x.s, x.want)
	}
	nothing(t, names.Order, everything, func(x api.Tree, node int) bool { return isKind(x, node, api.BlockNode, api.LoopNode) })
}

// P3.4: what expressions and spans use from outside.
func TestOutside(t *testing.T) {
	asked(t, names.Outside, "def f(^a: int, ^b: int) -> int { ^c = a; ^d = ^c + ^2 ^+ ^-b; give ^if ^a < c { ^e = ^d; give ^e } else { give d }, ^f(c, 1), ^f(1, ^2) }", map[int][]int{
		4: n(2), 5: nil, 6: n(1, 2), 7: n(1), 8: n(0, 2, 3), 9: n(0), 11: n(3), 12: n(10), 13: n(2), 14: nil, 15: nil,
	})
	// Of a loop its inside counts, of one in an expression all of it; none of its InitNodes, and nothing that is defined in it.
	asked(t, names.Outside, "def f(^a: int, ^b: int) -> int { ^c = 1; ^d = 2; ^e = ^1 + ^loop(^i := ^a, ^j := ^c) while ^i ^< d do { ^g = ^i ^+ b; next i = ^g ^+ 1; } give(^j ^- d); give 1 }", map[int][]int{
		6: n(1, 3), 8: n(0), 10: n(2), 11: n(7), 12: n(3, 7), 14: n(7), 15: n(1, 7), 16: n(13), 17: n(13), 18: n(9), 19: n(3, 9),
	})
	asked(t, names.Outside, "def f(^a: int) -> int { ^b = 1; give ^-loop(^i := ^a) while true do { } give(i + b), ^loop(^j := ^loop(^k := a) while true do { } give(k ^+ b)) while true do { } give(loop(^l := ^a) while true do { } give(j)) }", map[int][]int{
		2: n(0, 1), 5: n(0), 7: n(1), 9: n(1, 8),
	})
	asked(t, names.Outside, "def f(^a: int) -> [int] { ^b: [int] = ^array(^a, 1) { [0] = ^a; ^[i in 1..# - 1] = ^b[^i - 1] ^+ a; ^[k in 0..1] = ^k; ^[l in 0..1] = ^3 ^+ loop(^m := ^l) while true do { } give(^m + b) }; give ^b }", map[int][]int{
		2: n(0, 1), 3: n(0), 5: n(0, 1), 8: n(0, 1, 5), 9: nil, 10: n(9), 11: n(1), 12: nil, 13: n(1, 11), 17: n(1),
	})
	nothing(t, names.Outside, everything, func(x api.Tree, node int) bool { return isExpr(x, node) || isKind(x, node, api.SpanNode) })
}

// P3.5: which items call which, and which ones are dead.
func TestCallsAndDead(t *testing.T) {
	for _, x := range []struct {
		s     string
		calls [][]int
		dead  []int
	}{
		{"", nil, nil},
		{"def f() -> int { give 1 }", [][]int{nil}, n(0)},
		{"def main() -> int { give 1 }", [][]int{nil}, nil},
		{"def main() -> int { give main() }", [][]int{n(0)}, nil},
		{"def f() -> int { give main() } def main() -> int { give 1 }", [][]int{n(1), nil}, n(0)},
		{"def a() -> int { give b() + c() } def b() -> int { give b() } def main() -> int { give c() + c() } def c() -> int { give 1 } def d() -> int { give main() }", [][]int{n(1, 3), n(1), n(3), nil, n(2)}, n(0, 1, 4)},
		{"def a() -> int { give 1 } def b() -> int { give a() } def c() -> int { give b() } def main() -> int { give c() } def d() -> int { give a() }", [][]int{nil, n(0), n(1), n(2), n(0)}, n(4)},
		{"def a() -> int { give b() } def b() -> int { give a() }", [][]int{n(1), n(0)}, n(0, 1)},
		{"def a() -> int { give b() } def b() -> int { give a() } def main() -> int { give c() } def c() -> int { give d() + main() } def d() -> int { give c() }", [][]int{n(1), n(0), n(3), n(2, 4), n(3)}, n(0, 1)},
		{"def d(x: int) -> int { give 1 } def c(x: int) -> int { give d(x) } def main(main: int) -> int { give if a(1) < 1 { x = b(c(1)); give x } else { give loop(i := d(1)) while true do { } give(main) } } def b(x: int) -> int { give x } def a(x: int) -> int { give 1 } def e(main: int) -> int { give main }", [][]int{nil, n(0), n(0, 1, 3, 4), nil, nil, nil}, n(5)},
		{"def f(main: int) -> int { give main }", [][]int{nil}, n(0)},
	} {
		y := tree(t, x.s)
		for i, want := range x.calls {
			if l, e := names.Calls(y, i); !slices.Equal(l, want) || e != api.OK {
				t.Error(x.s, i, l, e)
			}
		}
		for _, i := range n(-1<<63, -1, len(x.calls), 1<<63-1) {
			if l, e := names.Calls(y, i); len(l) != 0 || e != api.ErrNone {
				t.Error(x.s, i, l, e)
			}
		}
		if l, e := names.Dead(y); !slices.Equal(l, x.dead) || e != api.OK {
			t.Error(x.s, l, e)
		}
	}
}

// P3.6: declarations of each kind get other names, with all that mean them; the new name stands already, stands elsewhere, or is no name.
func TestRename(t *testing.T) {
	for _, x := range []struct{ s, name, want string }{
		{"def f(^a: int) -> int { b = a; c = loop(i := b) while i < 2 do { next i = a; } give(i); give f(c) }", "z", "def f(z: int) -> int { b = z; c = loop(i := b) while i < 2 do { next i = z; } give(i); give f(c) }\n"},
		{"def f(a: int) -> int { ^b, d: int = f(a); c = loop(i := b) while i < b do { next i = b; } give(i); give b + d }", "f", "def f(a: int) -> int { f, d: int = f(a); c = loop(i := f) while i < f do { next i = f; } give(i); give f + d }\n"},
		{"def f(a: int) -> int { give loop(^i := a, j := a) while i < j do { next i = i + 1; next j = i; } give(i) }", "nexti", "def f(a: int) -> int { give loop(nexti := a, j := a) while nexti < j do { next nexti = nexti + 1; next j = nexti; } give(nexti) }\n"},
		{"def f(a: int) -> int { give array(a) { ^[k in 0..# - 1] = k + a; [l in 0..1] = l }[0] }", "abcdefghijkl", "def f(a: int) -> int { give array(a) { [abcdefghijkl in 0..# - 1] = abcdefghijkl + a; [l in 0..1] = l }[0] }\n"},
		{"^def f(a: int) -> int { give f(a) } def main(f: int) -> int { give f(f) }", "a", "def a(a: int) -> int { give a(a) }\ndef main(f: int) -> int { give a(f) }\n"},
		{"def f(^a: int) -> int { give a } def g(a: int) -> int { b = a; give b }", "b", "def f(b: int) -> int { give b }\ndef g(a: int) -> int { b = a; give b }\n"},
		{"def f(^a: int) -> int { give a }", "a", "def f(a: int) -> int { give a }\n"},
		{"^def main() -> int { give 1 } def f() -> int { give main() }", "g", "def g() -> int { give 1 }\ndef f() -> int { give g() }\n"},
		{"def f(a: int) -> int { b = 1; ^c = b; give c }", "f1", "def f(a: int) -> int { b = 1; f1 = b; give f1 }\n"},
	} {
		y, nodes := marked(t, x.s)
		z, e := names.Rename(y, nodes[0], x.name)
		s, f := parse.Print(z)
		if s != x.want || e != api.OK || f != api.OK {
			t.Error(x.s, x.name, s, e)
		}
		for i := range z.Nodes {
			if len(z.Nodes) != len(y.Nodes) || z.Nodes[i].At != y.Nodes[i].At {
				t.Error(x.s, "places have changed")
			}
		}
	}
	for _, x := range []struct {
		s, name string
		want    api.Errno
	}{
		{"def f(^a: int) -> int { b = 1; give a }", "b", api.ErrState}, {"def f(^a: int) -> int { b = 1; give b }", "b", api.ErrState}, {"def f(a: int) -> int { ^b = 1; give 2 }", "a", api.ErrState}, {"^def f(a: int) -> int { give 1 } def g(a: int) -> int { give 1 }", "g", api.ErrState}, {"def f(a: int) -> int { give 1 } ^def g(a: int) -> int { give 1 }", "f", api.ErrState},
		{"def f(a: int) -> int { b = if true { ^c = 1; give c } else { d = 1; give d }; give 1 }", "d", api.ErrState}, {"def f(a: int) -> int { give loop(^i := 1, j := 2) while true do { } give(i) }", "j", api.ErrState}, {"def f(a: int) -> int { give array(1) { [k in 0..1] = k; ^[l in 0..1] = l }[0] }", "k", api.ErrState},
		{"def f(^a: int) -> int { give a }", "if", api.ErrForm}, {"def f(^a: int) -> int { give a }", "", api.ErrForm}, {"def f(^a: int) -> int { give a }", "1", api.ErrForm}, {"def f(^a: int) -> int { give a }", "+", api.ErrForm}, {"def f(^a: int) -> int { give a }", "abcdefghijklm", api.ErrForm}, {"def f(^a: int) -> int { give a }", " b", api.ErrForm}, {"def f(^a: int) -> int { give a }", "b c", api.ErrForm}, {"def f(^a: int) -> int { give a }", "B", api.ErrForm}, {"def f(^a: int) -> int { give a }", "1b", api.ErrForm}, {"def f(^a: int) -> int { give a }", "\xff", api.ErrForm}, {"^def f(a: int) -> int { give a }", "def", api.ErrForm},
		{"def f(a: int) -> int { b ^= 1; give a }", "c", api.ErrNone}, {"def f(a: int) -> int { give ^a }", "c", api.ErrNone}, {"def f(a: int) -> int ^{ give a }", "", api.ErrNone}, {"def f(a: int) -> int { give ^f(1) }", "if", api.ErrNone}, {"def f(a: int) -> int { give loop(i := 1) while true do { ^next i = 1; } give(1) }", "j", api.ErrNone},
	} {
		y, nodes := marked(t, x.s)
		if z, e := names.Rename(y, nodes[0], x.name); e != x.want || len(z.Nodes)+len(z.Items) != 0 {
			t.Error(x.s, x.name, e)
		}
	}
	nothing(t, func(x api.Tree, node int) ([]int, api.Errno) {
		y, e := names.Rename(x, node, "z9")
		return y.Items, e
	}, everything, isDeclaration)
}
