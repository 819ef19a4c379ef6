package types_test

import (
	"fmt"
	"slices"
	"strings"
	"testing"

	"floodgate/api"
	"floodgate/parse"
	"floodgate/types"
)

// everything is a text with nodes of all kinds, and binds with and without types.
const everything = "def main(p: stream int) -> int, bool { x: int, y = if 1 < 2 and not false or true { give 0, true } else { z = -head(p) % 2; give z, z == 1 }; s: stream int = 1 :: tail(s); n = nil([bool]); a: [int] = array(size(b), 2) { [0] = 1; [i in 1..# - 1 by 2] = a[i - 1] * 2; [2] = f(x) / 3 }; b = array(1) { [0] = a }; c, d = loop(j := 0, k := n) while j >= 1 do { u = j + w; w: int = 2; next j = u; next k = tail(k); } give(if empty(k) { give j, k } else { give j, n }); give c, y != (c <= 1 or c > 2) }\ndef f(q: int) -> int { give q }\n"

// P4.5: Plain and Bare of texts.
func TestPlainAndBare(t *testing.T) {
	for _, x := range []struct{ s, plain, bare string }{
		{"def f() -> int { give 1 }", "def f() -> int { give 1 }\n", "def f() -> int { give 1 }\n"},
		{"def f() -> int { x = 1; give x }", "def f() -> int { x: int = 1; give x }\n", "def f() -> int { x = 1; give x }\n"},
		{"def f(p: [int]) -> int { x: int, y, z: [int] = g(p); u = v; v = p; give v[x] } def g(p: [int]) -> int, stream bool, [int] { q = p; give 1, nil(bool), q }", "def f(p: [int]) -> int { x: int, y: stream bool, z: [int] = g(p); u: [int] = v; v: [int] = p; give v[x] }\ndef g(p: [int]) -> int, stream bool, [int] { q: [int] = p; give 1, nil(bool), q }\n", "def f(p: [int]) -> int { x, y, z = g(p); u = v; v = p; give v[x] }\ndef g(p: [int]) -> int, stream bool, [int] { q = p; give 1, nil(bool), q }\n"},
		{"def f() -> int { x, y = loop(i := 1) while true do { u = v; v: int = i; next i = u; } give(i, nil([stream bool])); give x }", "def f() -> int { x: int, y: stream [stream bool] = loop(i := 1) while true do { u: int = v; v: int = i; next i = u; } give(i, nil([stream bool])); give x }\n", "def f() -> int { x, y = loop(i := 1) while true do { u = v; v = i; next i = u; } give(i, nil([stream bool])); give x }\n"},
	} {
		y := tree(t, x.s)
		plain, e := types.Plain(y)
		bare, f := types.Bare(y)
		if shown(plain) != x.plain || shown(bare) != x.bare || e != api.OK || f != api.OK {
			t.Error(x.s, shown(plain), shown(bare), e, f)
		}
		follow(t, y)
	}
	plain, e := types.Plain(tree(t, everything))
	if e != api.OK || !strings.Contains(shown(plain), "n: stream [bool] = nil([bool])") || !strings.Contains(shown(plain), "c: int, d: stream [bool] = loop") {
		t.Error(shown(plain), e)
	}
	if bare, e := types.Bare(tree(t, everything)); e != api.ErrType || len(bare.Nodes)+len(bare.Items) != 0 {
		t.Error(bare, e)
	}
	follow(t, tree(t, everything))
}

// P4.5: the nodes of types in Plain have no places in the text; all others keep theirs.
func TestPlaces(t *testing.T) {
	x := tree(t, "def f(p: [int]) -> int { x = p; y: [int], z = if true { give x, 1 } else { give p, 2 }; give y[z] }")
	plain, e := types.Plain(x)
	if e != api.OK {
		t.Fatal(e)
	}
	want := without(x, all)
	if got := without(plain, all); told(got) != told(want) {
		t.Errorf("%s\n%s", told(got), told(want))
	}
	for i, under := range isUnder(plain, all) {
		if n := plain.Nodes[i]; under && (n.At != 0 || n.N != 0 || n.Text != "") {
			t.Error(i, n)
		}
	}
	if n := plain.Nodes[6]; n.Kind != api.BindNode || !slices.Equal(n.Kids, []int{5}) || plain.Nodes[5].Kind != api.ArrayType || !slices.Equal(plain.Nodes[5].Kids, []int{4}) || plain.Nodes[4].Kind != api.IntType {
		t.Error(plain.Nodes)
	}
	if bare, e := types.Bare(x); e != api.OK || told(bare) != told(want) {
		t.Error(told(bare), told(want), e)
	}
}

// P4.5: Bare of trees that have no types without those of some binds.
func TestNotBare(t *testing.T) {
	for _, s := range []string{
		"p: stream int = 1 :: p; give 1", "p: stream int = 1 :: q; q = 2 :: p; give 1", "p: [int] = array(2) { [0] = 1; [k in 1..# - 1] = p[k - 1] }; give 1", "r = 1; p: stream int, q = if b { give 1 :: p, 1 } else { give s, 2 }; give 1",
		"r = if b { p: stream int = 1 :: p; give 1 } else { give 2 }; give 1", "r = loop(x := 1) while b do { p: stream int = x :: p; } give(x); give 1",
	} {
		x := tree(t, def(s))
		if bare, e := types.Bare(x); e != api.ErrType || len(bare.Nodes)+len(bare.Items) != 0 {
			t.Error(s, shown(bare), e)
		}
		follow(t, x)
	}
	for _, s := range []string{"p: stream int = 1 :: q; q: stream int = s; give 1", "p: int = 1; q: bool = b; give p"} {
		x := tree(t, def(s))
		if _, e := types.Bare(x); e != api.OK {
			t.Error(s, e)
		}
		follow(t, x)
	}
}

// follow asks what follows for Plain and Bare of a tree that has types (P4.5, P4.6).
func follow(t *testing.T, x api.Tree) {
	t.Helper()
	k, _, e := types.Infer(x)
	plain, f := types.Plain(x)
	if e != api.OK || f != api.OK {
		t.Fatal(shown(x), e, f)
	}
	same(t, "Plain", x, k, plain)
	for i, n := range plain.Nodes {
		if n.Kind != api.BindNode {
			continue
		}
		own, e := parse.Show(plain, n.Kids[0])
		if of, f := types.Of(plain, i); e != api.OK || f != api.OK || !slices.Equal(of, l(own)) {
			t.Fatal(shown(plain), i, own, of, e, f)
		}
	}
	if again, e := types.Plain(plain); e != api.OK || told(again) != told(plain) {
		t.Fatal(shown(plain), shown(again), e)
	}
	bare := without(x, all)
	_, _, e = types.Infer(bare)
	other, f := types.Bare(x)
	if e != f || e == api.OK && told(other) != told(bare) || e != api.OK && e != api.ErrType {
		t.Fatal(shown(x), shown(other), e, f)
	}
	if e == api.OK {
		same(t, "Bare", x, k, bare)
	}
	if another, e := types.Bare(plain); e != f || told(another) != told(other) {
		t.Fatal(shown(plain), shown(another), e, f)
	}
	if len(plain.Nodes) <= 200 {
		leave(t, x, k, plain)
	}
}

// leave leaves some types out of a plain tree: then it has the same types, or none.
func leave(t *testing.T, x api.Tree, k api.Types, plain api.Tree) {
	t.Helper()
	for i := range 7 {
		y := without(plain, func(bind int) bool { return (bind+i)%(i+2) == 0 })
		if _, _, e := types.Infer(y); e == api.OK {
			same(t, "left out", x, k, y)
			if again, e := types.Plain(y); e != api.OK || told(again) != told(plain) {
				t.Fatal(shown(y), shown(again), e)
			}
		} else if e != api.ErrType {
			t.Fatal(shown(y), e)
		}
	}
}

// same asks whether another tree has the same types, but for the types of BindNodes.
func same(t *testing.T, what string, x api.Tree, k api.Types, y api.Tree) {
	t.Helper()
	other, _, e := types.Infer(y)
	if e != api.OK || kept(x, k) != kept(y, other) {
		t.Fatal(what, shown(x), shown(y), e)
	}
}

// P4.5, R7: results that have just the limits, and such that are too large or too deep.
func TestTooLarge(t *testing.T) {
	// Each stmt has 57 nodes, and one more with a type of its bind.
	stmts := func(more int) string {
		s := ""
		for i := range 12 {
			half := "(" + strings.Repeat("1 + ", 13) + "1)"
			s += fmt.Sprintf("%c = %s + %s; ", 'a'+i, half, half)
		}
		return "def f() -> int { " + s + "give 1" + strings.Repeat(" + 1", more) + " }"
	}
	x := tree(t, stmts(0))
	if plain, e := types.Plain(x); e != api.OK || len(x.Nodes) != 688 || len(plain.Nodes) != api.MaxNodes {
		t.Error(len(x.Nodes), len(plain.Nodes), e)
	}
	for more := 1; more <= 5; more++ {
		if plain, e := types.Plain(tree(t, stmts(more))); e != api.ErrLimit || len(plain.Nodes)+len(plain.Items) != 0 {
			t.Error(more, len(plain.Nodes), e)
		}
		if bare, e := types.Bare(tree(t, stmts(more))); e != api.OK || len(bare.Nodes) != 688+2*more {
			t.Error(more, len(bare.Nodes), e)
		}
	}
	// A type of 20 parts makes a tree too deep whose bind stands deep enough: in two ifs it has the limit.
	nested := func(ifs int) string {
		s := "x = p; give 1"
		for i := range ifs {
			s = fmt.Sprintf("x%d = if true { %s } else { give 1 }; give 1", i, s)
		}
		return "def f(p: " + deep(20) + ") -> int { " + s + " }"
	}
	for ifs, want := range []api.Errno{api.OK, api.OK, api.OK, api.ErrLimit, api.ErrLimit} {
		plain, e := types.Plain(tree(t, nested(ifs)))
		if e != want || (len(plain.Nodes) == 0) != (e != api.OK) {
			t.Error(ifs, len(plain.Nodes), e)
		}
		if _, e := types.Bare(tree(t, nested(ifs))); e != api.OK {
			t.Error(ifs, e)
		}
	}
}
