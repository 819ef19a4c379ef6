package types_test

import (
	"slices"
	"strings"
	"testing"

	"floodgate/api"
	"floodgate/types"
)

// P4.1, P4.3: the chapter's first example, node by node.
func TestExample(t *testing.T) {
	x := tree(t, "def f(n: int) -> int, bool { x, y = if n < 0 { give 0, true } else { give n, false }; give x, y }")
	var none []string
	want := [][]string{none, l("int"), none, none, l("int"), l("bool"), l("int"), l("int"), l("bool"), l("int"), l("bool"), l("int", "bool"), l("int"), l("bool"), l("int", "bool"), l("int", "bool"), none, l("int"), l("bool"), l("int", "bool"), none}
	k, node, e := types.Infer(x)
	if e != api.OK || node != 0 || len(k.Of) != len(want) {
		t.Fatal(k, node, e)
	}
	for i := range want {
		of, e := types.Of(x, i)
		many, f := types.Arity(x, i)
		if !slices.Equal(k.Of[i], want[i]) || !slices.Equal(of, want[i]) || many != len(want[i]) || e != api.OK || f != api.OK {
			t.Error(i, k.Of[i], of, many, e, f)
		}
	}
	params, results, e := types.Sign(x, 0)
	if !slices.Equal(params, l("int")) || !slices.Equal(results, l("int", "bool")) || e != api.OK {
		t.Error(params, results, e)
	}
}

// P4.1: the other examples of trees.
func TestExamples(t *testing.T) {
	wrong(t, "def f() -> stream int { s = 1 :: ^s; give s }")
	right(t, "def f() -> stream int { ^s: stream int = 1 :: ^s; give s }", "stream int")
	wrong(t, "def f() -> int { give ^f(1) }")
	wrong(t, "^def f() -> int { give true }")
	wrong(t, "def f() -> int { a = ^array(2, 2) { [0] = 1; [1] = true }; give a[0] }")
}

// P4.1: a tree without nodes has types, which are none.
func TestEmpty(t *testing.T) {
	k, node, e := types.Infer(api.Tree{})
	if len(k.Of) != 0 || node != 0 || e != api.OK {
		t.Error(k, node, e)
	}
	if node, e := types.Check(api.Tree{}); node != 0 || e != api.ErrNone {
		t.Error(node, e)
	}
	plain, e := types.Plain(api.Tree{})
	bare, f := types.Bare(api.Tree{})
	if len(plain.Nodes)+len(plain.Items)+len(bare.Nodes)+len(bare.Items) != 0 || e != api.OK || f != api.OK {
		t.Error(plain, bare, e, f)
	}
}

// P4.2: programs, and trees that are none.
func TestCheck(t *testing.T) {
	const s, rest = "stream int", " -> int { give 1 }"
	for _, s := range []string{
		"def main()" + rest, "def main(p: " + s + ")" + rest, "def main(p: " + s + ", q: " + s + ")" + rest, "def main(p: " + s + ", q: " + s + ", r: " + s + ")" + rest,
		"def f(p: bool)" + rest + " def main()" + rest + " def g(p: [int], q: int, r: int, u: int)" + rest, "def main() -> bool, [int], stream bool, int { give true, array(1) { [0] = 1 }, nil(bool), 1 }", "def main(main: " + s + ")" + rest,
	} {
		if node, e := types.Check(tree(t, s)); node != 0 || e != api.OK {
			t.Error(s, node, e)
		}
	}
	for _, s := range []string{"", "def f()" + rest, "def mai()" + rest + " def main1(p: " + s + ")" + rest, "def f(main: " + s + ") -> int { give loop(u := main) while true do { } give(1) }", "def f() -> int { main = 1; give main }"} {
		if node, e := types.Check(tree(t, s)); node != 0 || e != api.ErrNone {
			t.Error(s, node, e)
		}
	}
	for _, params := range []string{"p: int", "p: bool", "p: [int]", "p: stream bool", "p: stream stream int", "p: stream [int]", "p: [stream int]", "p: " + s + ", q: int", "p: int, q: " + s, "p: " + s + ", q: " + s + ", r: bool", "p: " + s + ", q: bool, r: " + s, "p: " + s + ", q: " + s + ", r: " + s + ", u: " + s, "p: " + s + ", q: " + s + ", r: " + s + ", u: int", "p: " + s + ", q: " + s + ", r: " + s + ", u: " + s + ", v: " + s} {
		text := "def f(p: int)" + rest + " ^def main(" + params + ")" + rest + " def g()" + rest
		x, nodes := marked(t, text)
		if node, e := types.Check(x); node != nodes[0] || e != api.ErrType {
			t.Error(text, node, e)
		}
	}
	// A tree without types is no program, and this comes first; wrong looks at Check as well.
	wrong(t, "def f() -> int { give ^-true }")
	wrong(t, "def main(p: int) -> int { give ^-true }")
	wrong(t, "^def f() -> int { give true } def main(p: int) -> int { give 1 }")
	wrongWith(t, "def main(p: int) -> int { give ^q }", api.ErrName)
}

// P4.3: types, and how many, of all nodes, as Infer says; and of numbers that are no nodes.
func TestOf(t *testing.T) {
	x := tree(t, everything)
	k, _, e := types.Infer(x)
	if e != api.OK {
		t.Fatal(e)
	}
	for _, i := range numbers(x) {
		var want []string
		wantError := api.ErrNone
		if i >= 0 && i < len(x.Nodes) {
			want, wantError = k.Of[i], api.OK
		}
		l, e := types.Of(x, i)
		many, f := types.Arity(x, i)
		if !slices.Equal(l, want) || many != len(want) || e != wantError || f != wantError {
			t.Error(i, l, want, many, e, f)
		}
	}
}

// P4.3: the types of items, by their places, and of numbers that are no places.
func TestSign(t *testing.T) {
	x := tree(t, "def none() -> int { give 1 } def f(p: [stream int], q: int, r: bool, u: stream [bool], v: int) -> bool, int, [int], stream int { give true, 1, array(1) { [0] = 1 }, nil(int) } def g(p: bool) -> bool { give p }")
	for i, want := range [][2][]string{{nil, l("int")}, {l("[stream int]", "int", "bool", "stream [bool]", "int"), l("bool", "int", "[int]", "stream int")}, {l("bool"), l("bool")}} {
		params, results, e := types.Sign(x, i)
		if !slices.Equal(params, want[0]) || !slices.Equal(results, want[1]) || e != api.OK {
			t.Error(i, params, results, e)
		}
	}
	for _, i := range []int{-1 << 63, -1, 3, x.Items[1], x.Items[2], 1<<63 - 1} {
		if params, results, e := types.Sign(x, i); len(params)+len(results) != 0 || e != api.ErrNone {
			t.Error(i, params, results, e)
		}
	}
}

// P4.4: what types are split into, and how deep they are.
func TestSplit(t *testing.T) {
	for s, want := range map[string][2]string{
		"int": {"int", ""}, "bool": {"bool", ""}, "[int]": {"[]", "int"}, "[bool]": {"[]", "bool"}, "stream int": {"stream", "int"}, "stream bool": {"stream", "bool"}, "[stream int]": {"[]", "stream int"}, "stream [bool]": {"stream", "[bool]"}, "[[int]]": {"[]", "[int]"}, "stream stream int": {"stream", "stream int"}, "[stream [stream bool]]": {"[]", "stream [stream bool]"},
		deep(20): {"[]", deep(19)}, strings.Repeat("stream ", 19) + "bool": {"stream", strings.Repeat("stream ", 18) + "bool"},
	} {
		if word, part, e := types.Split(s); word != want[0] || part != want[1] || e != api.OK {
			t.Error(s, word, part, e)
		}
	}
	for s, want := range map[string]int{"int": 1, "bool": 1, "[int]": 2, "stream bool": 2, "[stream int]": 3, "stream stream [[bool]]": 5, deep(19): 19, deep(20): 20, strings.Repeat("stream ", 19) + "int": 20, strings.Repeat("[stream ", 9) + "[bool]" + strings.Repeat("]", 9): 20} {
		if parts, e := types.Deep(s); parts != want || e != api.OK {
			t.Error(s, parts, e)
		}
	}
}

// P4.4, R8: texts that are nearly types, or have too many parts.
func TestNoTypes(t *testing.T) {
	for _, s := range []string{
		"", " ", "i", "in", "ints", "int1", "Int", "INT", "boo", "bools", "Bool", " int", "int ", "\nint", "int\n", "int\x00", "\xff", "integer", "true", "1", "a",
		"[]", "[", "]", "][", "[int", "int]", "[int]]", "[[int]", "[ int]", "[int ]", "[int] ", " [int]", "]int[", "[int][int]", "[int, int]", "int[]", "[]int", "(int)", "[stream]", "[boolint]",
		"stream", "stream ", " stream int", "stream  int", "streamint", "stream\tint", "stream\nint", "stream int ", "stream int int", "stream int, bool", "int stream", "Stream int", "stream []", "stream stream", "stream stream ", "stream[int]", "streams int", "stream [int", "[stream int", "stream int]",
		"int, int", "int int", "intbool", "int|bool",
		deep(21), deep(22), "stream " + deep(20), strings.Repeat("stream ", 20) + "int", strings.Repeat("[", 1<<16) + "int" + strings.Repeat("]", 1<<16), strings.Repeat("stream ", 1<<16) + "int", strings.Repeat("[", 1<<20), deep(20) + "]", "[" + deep(19), deep(20)[:len(deep(20))-1],
	} {
		word, part, e := types.Split(s)
		if parts, f := types.Deep(s); word != "" || part != "" || e != api.ErrForm || parts != 0 || f != api.ErrForm {
			t.Errorf("%.50q %q %q %v %d %v", s, word, part, e, parts, f)
		}
	}
}

// P4.4, P4.10: types are put together from what Split says of them; one in brackets is one deeper.
func TestSplitAndJoined(t *testing.T) {
	level := l("int", "bool")
	for parts := 1; parts <= 8; parts++ {
		var next []string
		for _, s := range level {
			next = append(next, "["+s+"]", "stream "+s)
			word, part, e := types.Split(s)
			together := map[string]string{"int": "int", "bool": "bool", "[]": "[" + part + "]", "stream": "stream " + part}[word]
			many, f := types.Deep(s)
			one, g := types.Deep("[" + s + "]")
			if together != s || many != parts || one != parts+1 || e != api.OK || f != api.OK || g != api.OK {
				t.Fatal(s, word, part, many, one, e, f, g)
			}
		}
		level = next
	}
}
