package need_test

import (
	"testing"

	"floodgate/api"
	"floodgate/cells"
	"floodgate/need"
)

// conditions are what is no truth, as a condition, and what blights by it; the first one is a hole, which does not blight.
func conditions() []struct {
	v    api.Value
	want string
} {
	return []struct {
		v    api.Value
		want string
	}{{hole(), "?"}, {bad(api.BadZero), "zero!"}, {bad(api.BadRange), "range!"}, {bad(api.BadIndex), "index!"}, {bad(api.BadSize), "size!"}, {bad(api.BadKind), "kind!"}, {num(1), "kind!"}, {num(0), "kind!"}, {none(), "kind!"}, {ref(0), "kind!"}}
}

// blighted are expressions that are blighted where h is a hole, k is 1, s is an open stream of which nothing is known, z is nil, x is a name that is as good as h, y one that is as good as k, and those that are a hole then.
func blighted() map[string]bool {
	return map[string]bool{
		// No name is asked for.
		"3":                  false,
		"-1 + 2 * 3 / 0 % 4": false,
		"id(h)":              false,
		"id(id(x))":          false,
		"head(h :: s)":       false,
		"head(array(1) { [i in 0..# - 1] = 1 } :: nil([int]))[h]": true,
		"head(nil(int))": false,
		"loop(i := h) while i < h do { next i = h; } give(i)":                          false,
		"array(h) { [i in 0..# - 1] = i }[0]":                                          true,
		"array(k) { [i in 0..# - 1] = h }[0]":                                          false,
		"array(k) { [i in 0..# - 1] = i }[h]":                                          true,
		"array(k, 1) { [0] = h; [i in 1..# - 1] = x }[y]":                              false,
		"array(size(array(h) { [i in 0..# - 1] = 1 }), 0) { [i2 in 0..# - 1] = 1 }[0]": true,
		"size(array(3) { [i in 0..# - 1] = h })":                                       false,
		// Names that are holes, and others, in each place of strict nodes.
		"h":                      true,
		"k":                      false,
		"x":                      true,
		"y":                      false,
		"-h":                     true,
		"-k":                     false,
		"h + k":                  true,
		"k + h":                  true,
		"k - y":                  false,
		"h * h":                  true,
		"1 / 0 / h":              true,
		"k % 0":                  false,
		"head(s)":                true,
		"head(z)":                false,
		"head(tail(s))":          true,
		"head(tail(z))":          false,
		"size(head(w))":          false,
		"head(w)[h]":             true,
		"head(w)[k]":             false,
		"head(tail(w))[head(z)]": false,
		// Ifs: their conditions, and the second blocks alone.
		"if k == 1 { give h } else { give k }":                                           false,
		"if k == 1 { give k } else { give h }":                                           true,
		"if h == 1 { give k } else { give k }":                                           true,
		"if true { give h } else { give 1 }":                                             false,
		"if not k < 1 { give h } else { give if k != 2 { give h } else { give k } }":     false,
		"if not k < 1 { give k } else { give if h != 2 { give k } else { give k } }":     true,
		"if k == 1 { give k } else { give if k != 2 { give k } else { give -(y + x) } }": true,
		"if k == 1 and h == 1 { give 1 } else { give 2 }":                                false,
		"if h == 1 and k == 1 { give 1 } else { give 2 }":                                true,
		"if k == 1 or h == 1 { give 1 } else { give 2 }":                                 true,
		"if h == 1 or k == 1 { give 1 } else { give 2 }":                                 true,
		"if k == 1 or k >= 2 { give 1 } else { give 2 }":                                 false,
		"if k == 1 and h == 1 or k == 1 { give 1 } else { give 2 }":                      false,
		"if k <= 1 and (h == 1 or k == 1) { give 1 } else { give 2 }":                    false,
		"if (k == 1 or h == 1) and k == 1 { give 1 } else { give 2 }":                    true,
		"if empty(s) { give 1 } else { give 2 }":                                         true,
		"if empty(z) { give 1 } else { give 2 }":                                         false,
		"if empty(h :: s) { give 1 } else { give 2 }":                                    false,
		"if not empty(nil(int)) { give 1 } else { give 2 }":                              false,
		// Names of blocks that are blighted themselves.
		"if true { give h } else { a = h; give a }":                                                                       true,
		"if true { give h } else { a = h; b = 1; give b }":                                                                false,
		"if true { give h } else { a = b; b = c; c = k; give a }":                                                         false,
		"if true { give h } else { a = b; b = c; c = h; give a }":                                                         true,
		"if true { give h } else { a: stream int = h :: a; give head(a) }":                                                false,
		"if true { give h } else { a = id(h); give a }":                                                                   false,
		"if true { give h } else { a, b = if true { give h, h } else { give 1, h }; give a }":                             false,
		"if true { give h } else { a, b = if true { give 1, 1 } else { give 1, h }; give b }":                             true,
		"if true { give h } else { a, b = two(h); give a + b }":                                                           false,
		"if true { give h } else { a = x; give if true { give 1 } else { b = a; give b } }":                               true,
		"if true { give h } else { a = y; give if true { give 1 } else { b = a; give b } }":                               false,
		"if true { give h } else { a = b; b = if true { give h } else { c = 1 + d; d = x; give c }; give a }":             true,
		"if true { give h } else { a = b; b = if true { give h } else { c = 1 + d; d = y; give c }; give a }":             false,
		"if true { give h } else { a = array(b) { [i in 0..# - 1] = h }; b = k; give a[b] }":                              false,
		"if true { give h } else { a = array(b) { [i in 0..# - 1] = h }; b = x; give a[0] }":                              true,
		"if true { give h } else { a, b, c = if true { give 1, 2, 3 } else { u, v = two(1); give u, h, v }; give a + c }": false,
	}
}

// inBlock puts an expression into the second block of an if, whose condition is a param.
func inBlock(s string) string { return items("if cond { give 5 } else { give " + s + " }") }

// items are an item that gives an expression, and others that it calls.
func items(s string) string {
	return "def f(cond: bool, h: int, k: int, s: stream int, z: stream int) -> int { x = -y2; y2 = h; y = k; w: stream [int] = array(h + 1) { [i9 in 0..# - 1] = 1 } :: w; give " + s + " } def id(n: int) -> int { give id(n) } def two(n: int) -> int, int { give two(n) }"
}

// bloom asks what an item gives for values.
func bloom(t *testing.T, s string, want string, v ...api.Value) {
	t.Helper()
	p := picture(v)
	for _, v := range v {
		if v == ref(0) {
			p.Cells = [][]api.Value{{num(1)}}
		}
	}
	x := tree(t, s)
	q, e := need.Apply(x, 0, p)
	got, _ := cells.Show(q, 1)
	if got != want || e != api.OK {
		t.Error(s, v, got, want, e)
		return
	}
	m, _ := cells.Memory(p)
	if o := work(x, x.Items[0], m, p.Values); !samePicture(q, o.picture) {
		t.Error(s, v, q, o.picture)
	}
}

// P7.1, P7.2: the second block of an if is blighted by its condition, by each fault, and by values of other kinds; what is a hole in it stays one.
func TestBlightedBlocks(t *testing.T) {
	for _, c := range conditions() {
		for s, holes := range blighted() {
			want := c.want
			if holes {
				want = "?"
			}
			bloom(t, inBlock(s), want, c.v, hole(), num(1), hole(), none())
		}
	}
}

// P7.1, P7.2: so is the second operand of an or, and the give of a loop, in its last turn.
func TestBlightedOthers(t *testing.T) {
	for _, c := range conditions() {
		for s, holes := range blighted() {
			want := c.want
			if holes {
				want = "?"
			}
			give := "loop(j := 0) while if j < 2 { give true } else { give cond } do { next j = j + 1; } give(" + s + ")"
			bloom(t, items(give), want, c.v, hole(), num(1), hole(), none())
			or := "if cond or " + s + " == 1 { give 1 } else { give 2 }"
			bloom(t, items(or), want, c.v, hole(), num(1), hole(), none())
			other := "loop(j := 0) while cond or " + s + " == 1 do { } give(3)"
			bloom(t, items(other), want, c.v, hole(), num(1), hole(), none())
		}
	}
}

// P7.1, P7.2: an and with such a first operand is that, whatever the second one is, which is not needed; what is true or false decides.
func TestAndOr(t *testing.T) {
	and := "def f(c: bool, d: bool) -> bool { give c and d }"
	or := "def f(c: bool, d: bool) -> bool { give c or d }"
	spin := " def spin() -> bool { give spin() }"
	for _, c := range conditions() {
		bloom(t, and, c.want, c.v, hole())
		bloom(t, and, c.want, c.v, truth(1))
		bloom(t, "def f(c: bool) -> bool { give c and spin() }"+spin, c.want, c.v)
		bloom(t, "def f(c: bool) -> bool { give c or spin() }"+spin, c.want, c.v)
		bloom(t, or, "?", c.v, hole())
		bloom(t, or, c.want, c.v, truth(1))
		bloom(t, or, c.want, c.v, bad(api.BadZero))
	}
	for _, x := range []struct {
		v       api.Value
		and, or string
	}{{hole(), "?", "?"}, {bad(api.BadSize), "size!", "size!"}, {num(7), "7", "7"}, {truth(0), "false", "false"}, {truth(1), "true", "true"}, {none(), "nil", "nil"}} {
		bloom(t, and, x.and, truth(1), x.v)
		bloom(t, and, "false", truth(0), x.v)
		bloom(t, or, x.or, truth(0), x.v)
		bloom(t, or, "true", truth(1), x.v)
	}
}

// P7.1: each value of an if, and of a loop, is blighted for itself.
func TestBlightedPlaces(t *testing.T) {
	for _, x := range []struct{ results, s, want string }{
		{"int, int, int", "give if 1 / 0 == 0 { give 1, 2, 3 } else { give 4, head(s), 6 }", "zero!, ?, zero!"},
		{"int, int", "give if 1 / 0 == 0 { give 1, 2 } else { x = head(s); give f(x), x + 1 }", "zero!, ?"},
		{"int, int", "give if 1 / 0 == 0 { give f2(1) } else { give f2(head(s)) }", "zero!, zero!"},
		{"int, int", "give if 1 / 0 == 0 { give f2(1) } else { give if false { give f2(1) } else { give 1, head(s) } }", "zero!, ?"},
		{"int, int", "give if 1 / 0 == 0 { give f2(1) } else { give loop(i := head(s)) while true do { } give(i, i) }", "zero!, zero!"},
		{"int, int, int", "give loop(i := 2, x := head(s)) while 1 / i < 5 do { next i = i - 1; } give(i, x, 7)", "zero!, ?, zero!"},
		{"int, int", "give loop(i := 2, x := head(s)) while 1 / i < 5 do { next i = i - 1; } give(if true { give x, x } else { y = i; give y, x })", "zero!, ?"},
		{"int, int", "x, y = if 1 / 0 == 0 { give 1, 2 } else { give head(s), 3 }; give y, x", "zero!, ?"},
		{"stream int", "give if 1 / 0 == 0 { give s } else { give head(s) :: s }", "zero!"},
		{"stream int", "give if 1 / 0 == 0 { give s } else { give tail(s) }", "?"},
		{"int", "give if 1 / 0 == 0 { give 1 } else { give loop(i := 0) while head(s) == i do { } give(i) }", "zero!"},
		{"int", "give loop(i := 0) while i < 2 do { t = if 1 / 0 == i { give 1 } else { u = k; give u }; k = head(s); next i = t; } give(i)", "?"},
		{"int", "give loop(i := 0) while i < 2 do { t = if 1 / 0 == i { give 1 } else { u = k; give u }; k = i; next i = t; } give(i)", "zero!"},
		{"[int]", "give array(2) { [i in 0..# - 1] = if 1 / i == i { give 1 } else { u = if i == 5 { give 1 } else { give i }; give u } }", "[zero!, 1]"},
	} {
		comes(t, on(x.results, x.s)+" def f(n: int) -> int { give f(n) } def f2(n: int) -> int, int { give n, n }", open(), 1, x.want)
	}
}

// P7.1: what is blighted has a name in a block that is not: then it is needed as it is, wherever it stands.
func TestBlightedOutside(t *testing.T) {
	for _, x := range []struct{ results, s, want string }{
		{"int", "a = head(s); give if false { give 1 } else { b = a; give if 1 / 0 == 0 { give 1 } else { give b } }", "?"},
		{"int", "a = head(s); give if false { give 1 } else { b = 1 / 0 + 1; give if 1 % 0 == 0 { give 1 } else { c = b; give c } }", "zero!"},
		{"int", "a = f(1); give if false { give 1 } else { b = a; give if 1 / 0 == 0 { give 1 } else { give b } }", "zero!"},
		{"int", "a: stream int = b :: nil(int); b: int = if head(a) < 1 { give 1 } else { give 2 }; give if 1 / 0 == 0 { give 1 } else { give b }", "?"},
		{"int, int", "p: int, q: int = if 1 / 0 == 0 { give 1, 2 } else { x = u; give x, x }; u: int = head(t); t: stream int = q :: nil(int); give p, u", "?, ?"},
		{"int, int", "p: int, q: int = if 1 / 0 == 0 { give 1, 2 } else { x = u; give x, 3 }; u: int = head(t); t: stream int = q :: nil(int); give p, u", "zero!, zero!"},
	} {
		comes(t, on(x.results, x.s)+" def f(n: int) -> int { give n }", open(), 1, x.want)
	}
}
