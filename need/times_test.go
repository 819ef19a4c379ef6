package need_test

import (
	"slices"
	"strings"
	"testing"

	"floodgate/api"
	"floodgate/need"
)

// P7.3: in how many contexts the marked nodes were worked out.
func TestTimes(t *testing.T) {
	for _, x := range []struct {
		s    string
		in   api.Inputs
		want string // of the marked nodes, in their order in the tree
	}{
		{main("int", "a = ^b ^+ ^1; b = ^2; c = ^a; give ^if ^b ^< ^3 { d = ^b; give ^d } else { give ^c }"), nothing(), "0 0 0 1 0 1 1 1 1 1 0 1"},
		{main("int", "x = ^1 ^+ ^1; give ^x ^* ^x"), nothing(), "1 1 1 1 1 1"},
		{main("int", "x, y = ^f(^1, ^2); give ^x") + " def f(a: int, b: int) -> int, int { c = ^b; give ^a, ^c }", nothing(), "1 0 1 1 0 1 0"},
		{main("int", "x, y = ^f(^1, ^2); give ^x ^+ ^y") + " def f(a: int, b: int) -> int, int { c = ^b; give ^a, ^c }", nothing(), "1 1 1 1 1 1 1 1 1"},
		{main("int", "give ^f(^f(^f(^1)))") + " def f(n: int) -> int { give ^n ^+ ^n }", nothing(), "1 1 1 1 3 3 3"},
		{main("int", "give ^f(^4)") + " def f(n: int) -> int { give ^if ^n ^== ^0 { give ^1 } else { give ^f(^n ^- ^1) } }", nothing(), "1 1 5 5 5 1 4 4 4 4 5"},
		{main("int", "give ^loop(i := ^0, s := ^7, u := ^8) while ^i ^< ^3 do { t = ^i ^+ ^1; next i = ^t; next u = ^1; } give(^s)"), nothing(), "1 1 0 4 4 4 3 3 3 3 0 1 1"},
		{main("int, int", "give ^loop(i := ^0, s := ^7, u := ^8) while ^i ^< ^3 do { next i = ^i ^+ ^1; next u = ^1; } give(^s, ^u)"), nothing(), "1 1 0 4 4 4 3 3 3 1 1 1 1"},
		{main("[int]", "a: [int] = ^array(^4, 1) { [0] = ^1; [i in 1..# - 1] = ^a^[^i ^- ^1] ^* ^2 }; give ^a"), nothing(), "1 1 3 3 3 3 3 3 3 1 1"},
		{main("int", "a: [int] = ^array(^4, 1) { [0] = ^1; [i in 1..# - 1] = ^a^[^i ^- ^1] ^* ^2 }; give ^a^[^2]"), nothing(), "1 1 2 2 2 2 2 2 2 1 1 1 1"},
		{main("int", "give ^head(^1 ^:: ^2 ^:: ^nil(int))"), nothing(), "1 0 0 0 1 1"},
		{main("stream int", "give ^1 ^:: ^2 ^:: ^nil(int)"), nothing(), "1 1 1 1 1"},
		{main("bool, bool", "give ^true ^or ^false, ^true ^and ^not ^true"), nothing(), "1 0 1 1 1 1 1"},
		{main("int", "k = ^1; z = ^2; give ^if ^1 ^/ ^0 ^< ^2 { give ^3 } else { l = ^k; m = ^z; give ^4 ^+ ^l }"), nothing(), "1 0 1 1 1 1 1 0 0 0 0 0 0 1"},
		{main("int", "x, y = ^if ^1 ^/ ^0 ^< ^2 { give ^3, ^3 } else { give ^head(^4 ^:: ^k), ^loop(i := ^0) while ^true do { } give(^i) }; k: stream int = ^tail(^k2); k2 = ^nil(int); give ^x ^+ ^y"), nothing(), "1 1 1 1 1 0 0 0 0 0 0 0 0 0 0 1 0 0 0 1 1 1"},
		{on("int", "give ^head(^tail(^s))"), open(1, 2), "1 1 1"},
		{on("int", "give ^if ^head(^s) ^< ^1 { give ^1 } else { give ^2 }"), open(), "1 1 1 1 0 0 1"},
	} {
		y, nodes := marked(t, x.s)
		l, e := need.Times(y, x.in)
		if e != api.OK || len(l) != len(y.Nodes) {
			t.Error(x.s, l, e)
			continue
		}
		var got []string
		for _, node := range nodes {
			got = append(got, string(rune('0'+l[node])))
		}
		if strings.Join(got, " ") != x.want {
			t.Error(x.s, got, x.want)
		}
		for i, n := range y.Nodes {
			if n.Kind > api.ArrayNode && l[i] != 0 {
				t.Error(x.s, i, l[i])
			}
			if n.Kind <= api.ArrayNode && !slices.Contains(nodes, i) {
				t.Error("not marked:", x.s, i)
			}
		}
		agree(t, y, x.in)
	}
}

// P7.3: the marked SetNodes are those that nothing needed.
func TestUnused(t *testing.T) {
	for _, x := range []struct {
		s  string
		in api.Inputs
	}{
		{main("int", "give 1"), nothing()},
		{main("int", "a = 1; b ^= a; c ^= b; give a"), nothing()},
		{main("int", "a, b = f(1); give b") + " def f(n: int) -> int, int { x ^= n; y = n; give x, y }", nothing()},
		{main("int", "give 1") + " def f(n: int) -> int { x ^= n; give x }", nothing()},
		{main("int", "give if true { a = 1; give a } else { b ^= 1; give b }"), nothing()},
		{main("int", "k = 1; give if 1 / 0 == 0 { a ^= 1; give a } else { b ^= k; give b }"), nothing()},
		{main("int", "give loop(i := 0) while i < 1 do { a ^= i; b = i + 1; next i = b; } give(i)"), nothing()},
		{main("int", "give loop(i := 0) while i < 0 do { b ^= i + 1; next i = b; } give(i)"), nothing()},
		{main("stream int", "a = 1; b ^= 2; s: stream int = a :: s; give s"), nothing()},
		{main("int", "a ^= 1; s: stream int = 5 :: a :: s; give head(s)"), nothing()},
		{on("int", "a = head(s); b ^= 1; give if a == 1 { give b } else { give a }"), open()},
		{on("int", "a = head(s); b = 1; give if a == 1 { give b } else { give a }"), open(1)},
		// What is asked for of what is blighted: all kids of most nodes, of others so many as must be.
		{on("bool", "a = head(s) == 1; b = true; give 1 / 0 == 0 or a == b"), open()},
		{on("bool", "a = head(s) == 1; b = true; give 1 / 0 == 0 or b != a"), open()},
		{on("bool", "a = head(s) == 1; b ^= true; give 1 / 0 == 0 or (a or b)"), open()},
		{on("bool", "a = head(s) == 1; b = true; give 1 / 0 == 0 or (b or a)"), open()},
		{on("bool", "a = head(s) == 1; b ^= true; give 1 / 0 == 0 or (a and b)"), open()},
		{on("bool", "a ^= head(s) == 1; b = true; give 1 / 0 == 0 or (b and a)"), open()},
		{on("int", "a = head(s); b ^= 1; c ^= 1; give if 1 / 0 == 0 { give b } else { give if a == 1 { give b } else { give c } }"), open()},
		{on("int", "a = head(s); b ^= 1; c = 1; give if 1 / 0 == 0 { give b } else { give if a == 1 { give b } else { give c } }"), open(1)},
		{on("int", "a = 1; b ^= 1; c ^= 1; give if 1 / 0 == 0 { give b } else { give array(a) { [i in 0..# - 1] = b }[f(c)] }") + " def f(n: int) -> int { give n }", open()},
		{on("int", "a = array(2) { [i in 0..# - 1] = i }; b = 1; c ^= 1; give if 1 / 0 == 0 { give 1 } else { give a[b] + head(c :: nil(int)) }"), open()},
		{on("int", "a ^= 0; b ^= true; c ^= 1; give if 1 / 0 == 0 { give 1 } else { give loop(i := a) while b do { } give(i + c) }"), open()},
		{on("int, int", "a = head(s); b ^= 1; c = 1; x, y = if 1 / 0 == 0 { give 1, 2 } else { give b, c + a }; give y, y"), open()},
	} {
		y, nodes := marked(t, x.s)
		if l, e := need.Unused(y, x.in); !slices.Equal(l, nodes) || e != api.OK {
			t.Error(x.s, l, nodes, e)
		}
		agree(t, y, x.in)
	}
}

// P7.4: contexts of calls, turns and cells, which begin when they are needed, and structures, also those of inputs.
func TestCount(t *testing.T) {
	for _, x := range []struct {
		s                 string
		in                api.Inputs
		contexts, structs int
	}{
		{main("int", "x = y + 1; y = 2; give x * x"), nothing(), 1, 0},
		{main("stream int", "s: stream int = 1 :: s; give s"), nothing(), 1, 1},
		{main("int", "give loop(i := 0, s := 0) while i < 4 do { next i = i + 1; next s = s + i; } give(s)"), nothing(), 6, 0},
		{main("[int]", "a: [int] = array(4, 1) { [0] = 1; [i in 1..# - 1] = a[i - 1] * 2 }; give a"), nothing(), 4, 1},
		{main("int", "a: [int] = array(4, 1) { [0] = 1; [i in 1..# - 1] = a[i - 1] * 2 }; give a[1]"), nothing(), 2, 1},
		{main("int", "a: [int] = array(4, 1) { [0] = 1; [i in 1..# - 1] = a[i - 1] * 2 }; give a[2] + a[2]"), nothing(), 3, 1},
		{main("int", "a: [int] = array(4, 1) { [0] = 1; [i in 1..# - 1] = 3 }; give a[0] + size(a)"), nothing(), 1, 1},
		{main("int", "give if true { give 1 } else { give f(1) }") + " def f(n: int) -> int { give n }", nothing(), 1, 0},
		{main("int", "x, y = f(1); give x + y + x") + " def f(n: int) -> int, int { give n, n }", nothing(), 2, 0},
		{main("int", "give f(1) + f(1)") + " def f(n: int) -> int { give n }", nothing(), 3, 0},
		{main("int", "give f(1)") + " def f(n: int) -> int { give g(n) + g(n) } def g(n: int) -> int { give n }", nothing(), 4, 0},
		{main("int, int", "x, y = loop(i := 0) while i < 2 do { next i = i + 1; } give(i, i); give x, y"), nothing(), 4, 0},
		{main("int", "give loop(i := 0) while false do { } give(4)"), nothing(), 2, 0},
		{main("int", "give loop(i := 3) while 1 / i < 1 do { next i = i - 1; } give(4)"), nothing(), 4, 0},
		{main("int", "give loop(i := 0, s := 0) while i < 2 do { next s = s + loop(j := 0) while j < i do { next j = j + 1; } give(j); next i = i + 1; } give(s)"), nothing(), 7, 0},
		{main("int", "give loop(i := 0, s := nil(int)) while i < 2 do { next s = i :: s; next i = i + 1; } give(i)"), nothing(), 4, 0},
		{main("int", "give loop(i := 0, s := nil(int)) while i < 2 do { next s = i :: s; next i = i + 1; } give(head(s))"), nothing(), 4, 1},
		{main("stream int", "give loop(i := 0, s := nil(int)) while i < 2 do { next s = i :: s; next i = i + 1; } give(s)"), nothing(), 4, 2},
		{main("[[int]]", "give array(2) { [i in 0..# - 1] = array(2) { [j in 0..# - 1] = i + j } }"), nothing(), 7, 3},
		{main("int", "x = array(-1) { [i in 0..# - 1] = i }; y = array(1 / 0) { [j in 0..# - 1] = j }; give size(x) + size(y)"), nothing(), 1, 0},
		{on("int", "give 1"), closed(1, 2, 3), 1, 3},
		{on("stream int", "give 0 :: s"), open(1, 2, 3), 1, 4},
		{on("int", "give if 1 / 0 == 0 { give 1 } else { give f(head(s :: s :: nil(stream int))) }") + " def f(s: stream int) -> int { give 1 }", open(1), 1, 1},
		{on("int", "give if 1 / 0 == 0 { give 1 } else { give loop(i := 0) while true do { } give(i) }"), open(), 1, 0},
		{"def main(a: stream int, b: stream int) -> int { give head(b) }", api.Inputs{L: [][]int{{1, 2}, {3}}, Closed: []bool{true, true}}, 1, 3},
	} {
		y := tree(t, x.s)
		if contexts, structs, e := need.Count(y, x.in); contexts != x.contexts || structs != x.structs || e != api.OK {
			t.Error(x.s, contexts, structs, e)
		}
		agree(t, y, x.in)
	}
}

// P7.5: the marked NameNodes needed what was being worked out.
func TestKnots(t *testing.T) {
	more := " def f(n: int) -> int { give n } def two(n: int) -> int, int { give n, n }"
	for _, x := range []struct{ results, s string }{
		{"int", "give 1"},
		{"int", "s: stream int = ^x :: nil(int); x = head(s); give x"},
		{"int", "s: stream int = x :: nil(int); x = head(s); give 1"},
		// Over other names, and from wherever it begins.
		{"int", "s: stream int = y :: nil(int); y: int = ^x + 1; x: int = head(s); give x * 1"},
		{"int", "s: stream int = ^y :: nil(int); y: int = x + 1; x: int = head(s); give y"},
		{"int, int", "s: stream int = y :: nil(int); y: int = ^x + 1; x: int = head(s); give x, y"},
		{"int, int", "s: stream int = ^y :: nil(int); y: int = x + 1; x: int = head(s); give y, x"},
		{"int", "s: stream int = ^x + ^x * ^x :: nil(int); x = head(s); give x"},
		{"int", "s: stream int = x + y :: nil(int); x = head(s); y = head(s); give 2 + head(s)"},
		{"int", "s: stream int = ^x + y :: nil(int); x = head(s); y = head(s); give x"},
		// Over calls, ifs, loops, cells.
		{"int", "s: stream int = ^x :: nil(int); x = f(head(s)); give x"},
		{"int", "s: stream int = f(f(^x)) :: nil(int); x = head(s); give x"},
		{"int", "x: int, y: int = two(head(s)); s: stream int = y :: nil(int); give x"},
		{"int", "x: int, y: int = two(head(s)); s: stream int = ^x :: nil(int); give x"},
		{"int", "x = if y < 1 { give 1 } else { give 2 }; y = head(s); s: stream int = ^x :: nil(int); give x"},
		{"int", "x: int, z: int = if y < 1 { give 1, 2 } else { give 2, 3 }; y = head(s); s: stream int = z :: nil(int); give x"},
		{"int", "x: int, z: int = if true { give 1, y } else { give 2, 3 }; y = head(s); s: stream int = ^z :: nil(int); give z"},
		{"int", "x: int = loop(i := head(s)) while i < 1 do { } give(i); s: stream int = ^x :: nil(int); give x"},
		{"int", "x: int, y: int = loop(i := head(s), k := 0) while k < 2 do { next k = k + 1; } give(i, ^i); s: stream int = y :: nil(int); give x"},
		{"int", "x: int, y: int = loop(k := 0, i := head(s)) while k < 2 do { next k = k + 1; next i = i + 1; } give(i, ^i); s: stream int = y :: nil(int); give x"},
		{"int", "x: int, y: int = loop(k := 0, i := head(s)) while k < 2 do { next k = k + 1; next i = 4; } give(i, i); s: stream int = y :: nil(int); give x"},
		{"int", "give loop(i := 0, s := 0) while i < 2 do { t = head(u); u: stream int = ^t :: nil(int); next s = t; next i = i + 1; } give(s)"},
		{"[int]", "a: [int] = array(2, 2) { [0] = a[1]; [1] = a[0]; [i in 2..# - 1] = 7 }; give a"},
		{"[int]", "a: [int] = array(3, 1) { [i in 0..# - 2] = ^x + i; [# - 1] = 1 }; x = a[0] + a[1]; give array(1) { [k in 0..# - 1] = x }"},
		{"[int]", "a: [int] = array(3, 1) { [i in 0..# - 2] = ^x + i; [# - 1] = 1 }; x = a[0] + a[1]; give a"},
		{"[int]", "a: [int] = array(2, 1) { [i in 0..# - 2] = x + i; [# - 1] = 1 }; x = a[0] + a[1]; give a"},
		// Sizes, conditions, what is done for nothing.
		{"int", "a: [int] = array(head(s)) { [i in 0..# - 1] = 1 }; s: stream int = size(^a) :: nil(int); give size(a)"},
		{"bool", "b: bool = head(s) or true; s: stream bool = (^b :: nil(bool)); give b"},
		{"bool", "b: bool = true or head(s); s: stream bool = (b :: nil(bool)); give b"},
		// In which order: the values, then the cells, breadth first.
		{"stream int, int", "s: stream int = x :: ^y :: nil(int); x = head(tail(s)); y = head(s); give s, y"},
		{"stream int, int", "s: stream int = ^x :: y :: nil(int); x = head(tail(s)); y = head(s); give s, x"},
		{"stream int", "s: stream int = x :: y :: nil(int); x = head(tail(s)); y = head(s); give s"},
		{"[stream int]", "x: int = head(w); w: stream int = ^y :: nil(int); y: int = x + 0; give array(2, 2) { [0] = x :: nil(int); [1] = if y == 1 { give nil(int) } else { give nil(int) }; [i in 2..# - 1] = nil(int) }"},
		{"[stream int]", "x: int = head(w); w: stream int = y :: nil(int); y: int = ^x + 0; give array(2, 2) { [0] = if x == 1 { give nil(int) } else { give nil(int) }; [1] = y :: nil(int); [i in 2..# - 1] = nil(int) }"},
		{"[stream int], int", "x: int = head(w); w: stream int = y :: nil(int); y: int = ^x + 0; give array(2, 2) { [0] = y :: nil(int); [1] = y :: nil(int); [i in 2..# - 1] = nil(int) }, x"},
		// Several, and one in several contexts.
		{"int, int", "s: stream int = ^x :: nil(int); x = head(s); r: stream int = y :: nil(int); y: int = ^z * 2; z: int = head(r); give x, z"},
		{"int", "give g(1) + g(2)"},
		{"int, int", "give g(1), g(2)"},
		// What is blighted.
		{"stream int", "t: stream int = if head(u) < 1 { give nil(int) } else { give nil(int) }; u: stream int = x :: nil(int); x: int = if 1 / 0 == 0 { give 1 } else { give head(^t) }; give t"},
		{"int", "t: stream int = if head(u) < 1 { give nil(int) } else { give nil(int) }; u: stream int = ^x :: nil(int); x: int = if 1 / 0 == 0 { give 1 } else { give head(t) }; give x"},
		{"int", "u: int = head(t); t: stream int = x :: nil(int); x: int = if 1 / 0 == 0 { give 1 } else { a = b; b = 1 + ^u; give a }; give u"},
		{"int", "u: int = head(t); t: stream int = x :: nil(int); x: int = if 1 / 0 == 0 { give 1 } else { a = b; b = if ^u == 1 { give u } else { give u }; give a + ^u }; give u"},
		{"bool", "u: bool = head(t); t: stream bool = x :: nil(bool); x: bool = 1 / 0 == 0 or ^u; give u"},
		{"int", "u: int = head(t); t: stream int = x :: nil(int); x: int = loop(i := 2) while 1 / i < 9 do { next i = i - 1; } give(i + ^u); give u"},
		{"int", "x: int = loop(i := head(s), k := 0) while 1 / (1 - k) < 2 do { next k = k + 1; } give(i); s: stream int = ^x :: nil(int); give x"},
		{"int, int", "p: int, q: int = if 1 / 0 == 0 { give 1, 2 } else { x = ^u; give x, x }; u: int = head(t); t: stream int = q :: nil(int); give p, u"},
		{"int, int", "p: int, q: int = if 1 / 0 == 0 { give 1, 2 } else { give v, ^u }; v: int = u; u: int = head(t); t: stream int = q :: nil(int); give p, u"},
	} {
		s := main(x.results, x.s) + more
		if strings.Contains(x.s, "g(1)") {
			s += " def g(n: int) -> int { s: stream int = ^k + n :: nil(int); k = head(s); give k }"
		}
		y, nodes := marked(t, s)
		if l, e := need.Knots(y, nothing()); !slices.Equal(l, nodes) || e != api.OK {
			t.Error(x.s, l, nodes, e)
		}
		agree(t, y, nothing())
	}
}
