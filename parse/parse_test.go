package parse_test

import (
	"fmt"
	"math/rand"
	"strings"
	"testing"

	"floodgate/api"
	"floodgate/lex"
	"floodgate/parse"
)

// P2.1: the trees of whole texts.
func TestParse(t *testing.T) {
	for s, want := range map[string]string{
		"": " items []", " \n": " items []", "~ def f() -> int { give 1 }": " items []", "\n~ a\n ~ b ! 007\n": " items []",
		"def f(a: int) -> int { b = a; give b + 1 }":                        "inttype@9 param:a[0]@6 inttype@17 bind:b@23 name:a@27 set=1[3,4]@25 name:b@35 num=1@39 add[6,7]@37 block=1[5,8]@21 def:f=1[1,2,9]@0 items [10]",
		"~ so\ndef f()->int{give 0}def g2()->bool,int{give f(),1}\n":        "inttype@14 num@23 block[1]@17 def:f[0,2]@5 booltype@35 inttype@40 call:f@49 num=1@53 block[6,7]@43 def:g2[4,5,8]@25 items [3 9]",
		"def f(a: [int], b: stream stream [bool]) -> bool {give a}":         "inttype@10 arraytype[0]@9 param:a[1]@6 booltype@34 arraytype[3]@33 streamtype[4]@26 streamtype[5]@19 param:b[6]@16 booltype@44 name:a@55 block[9]@49 def:f=2[2,7,8,10]@0 items [11]",
		"def f()->int,bool,[int],stream int{x,y: int,z=1;w=x;give y,z,w,1}": "inttype@9 booltype@13 inttype@19 arraytype[2]@18 inttype@31 streamtype[4]@24 bind:x@35 inttype@40 bind:y[7]@37 bind:z@44 num=1@46 set=3[6,8,9,10]@45 bind:w@48 name:x@50 set=1[12,13]@49 name:y@57 name:z@59 name:w@61 num=1@63 block=2[11,14,15,16,17,18]@34 def:f[0,1,3,5,19]@0 items [20]",
	} {
		if x, at, e := parse.Parse(s); toldTree(x) != want || at != 0 || e != api.OK {
			t.Errorf("%q\n%s\n%s\n%d %v", s, toldTree(x), want, at, e)
		}
	}
}

// P2.1, P2.10: the nodes of expressions, each kind of them; and how tightly operators bind.
func TestParseExpressions(t *testing.T) {
	for s, want := range map[string]string{
		"0": "num@0", "1000000000": "num=1000000000@0", "true": "bool=1@0", "false": "bool@0", "a": "name:a@0", "((a))": "name:a@2",
		"f()": "call:f@0", "f( a ,1)": "name:a@3 num=1@6 call:f[0,1]@0", "f((a))": "name:a@3 call:f[0]@0", "f(g(1))": "num=1@4 call:g[0]@2 call:f[1]@0",
		"nil(int)": "inttype@4 nil[0]@0", "nil([stream bool])": "booltype@12 streamtype[0]@5 arraytype[1]@4 nil[2]@0",
		"head(a)": "name:a@5 head[0]@0", "tail(a)": "name:a@5 tail[0]@0", "empty(a)": "name:a@6 empty[0]@0", "size(a)": "name:a@5 size[0]@0", "head(a :: b)": "name:a@5 name:b@10 cons[0,1]@7 head[2]@0",
		"a::b": "name:a@0 name:b@3 cons[0,1]@1", "a or b": "name:a@0 name:b@5 or[0,1]@2", "a and b": "name:a@0 name:b@6 and[0,1]@2",
		"a==b": "name:a@0 name:b@3 eq[0,1]@1", "a!=b": "name:a@0 name:b@3 ne[0,1]@1", "a<b": "name:a@0 name:b@2 lt[0,1]@1", "a<=b": "name:a@0 name:b@3 le[0,1]@1", "a>b": "name:a@0 name:b@2 gt[0,1]@1", "a>=b": "name:a@0 name:b@3 ge[0,1]@1",
		"a+b": "name:a@0 name:b@2 add[0,1]@1", "a-b": "name:a@0 name:b@2 sub[0,1]@1", "a*b": "name:a@0 name:b@2 mul[0,1]@1", "a/b": "name:a@0 name:b@2 div[0,1]@1", "a%b": "name:a@0 name:b@2 mod[0,1]@1",
		"not a": "name:a@4 not[0]@0", "-a": "name:a@1 neg[0]@0", "a[b]": "name:a@0 name:b@2 read[0,1]@1",
		// Left to right, but for ::.
		"a::b::c": "name:a@0 name:b@3 name:c@6 cons[1,2]@4 cons[0,3]@1", "(a::b)::c": "name:a@1 name:b@4 cons[0,1]@2 name:c@8 cons[2,3]@6", "a or b or c": "name:a@0 name:b@5 or[0,1]@2 name:c@10 or[2,3]@7", "a and b and c": "name:a@0 name:b@6 and[0,1]@2 name:c@12 and[2,3]@8", "a-b+c": "name:a@0 name:b@2 sub[0,1]@1 name:c@4 add[2,3]@3", "a/b*c%d": "name:a@0 name:b@2 div[0,1]@1 name:c@4 mul[2,3]@3 name:d@6 mod[4,5]@5", "a-(b-c)": "name:a@0 name:b@3 name:c@5 sub[1,2]@4 sub[0,3]@1",
		"not not a": "name:a@8 not[0]@4 not[1]@0", "- -a": "name:a@3 neg[0]@2 neg[1]@0", "a[b][c]": "name:a@0 name:b@2 read[0,1]@1 name:c@5 read[2,3]@4",
		// Each operator and the next tighter one.
		"a or b::c or d": "name:a@0 name:b@5 or[0,1]@2 name:c@8 name:d@13 or[3,4]@10 cons[2,5]@6", "a and b or c and d": "name:a@0 name:b@6 and[0,1]@2 name:c@11 name:d@17 and[3,4]@13 or[2,5]@8", "not a and not b": "name:a@4 not[0]@0 name:b@14 not[2]@10 and[1,3]@6", "not a==b": "name:a@4 name:b@7 eq[0,1]@5 not[2]@0",
		"a+b<c-d": "name:a@0 name:b@2 add[0,1]@1 name:c@4 name:d@6 sub[3,4]@5 lt[2,5]@3", "a+b*c": "name:a@0 name:b@2 name:c@4 mul[1,2]@3 add[0,3]@1", "a*b+c": "name:a@0 name:b@2 mul[0,1]@1 name:c@4 add[2,3]@3", "-a*-b": "name:a@1 neg[0]@0 name:b@4 neg[2]@3 mul[1,3]@2", "-a[b]": "name:a@1 name:b@3 read[0,1]@2 neg[2]@0", "a[b+c::d]": "name:a@0 name:b@2 name:c@4 add[1,2]@3 name:d@7 cons[3,4]@5 read[0,5]@1", "(a+b)*c": "name:a@1 name:b@3 add[0,1]@2 name:c@6 mul[2,3]@5",
		// Atoms with parts.
		"if a{give 1}else{give 2}":                                            "name:a@3 num=1@10 block[1]@4 num=2@22 block[3]@16 if[0,2,4]@0",
		"if a<b{x,y:int=f();give x}else{give 2,3}+c":                          "name:a@3 name:b@5 lt[0,1]@4 bind:x@7 inttype@11 bind:y[4]@9 call:f@15 set=2[3,5,6]@14 name:x@24 block=1[7,8]@6 num=2@36 num=3@38 block[10,11]@30 if[2,9,12]@0 name:c@41 add[13,14]@40",
		"loop(i:=0)while b do{}give(i)":                                       "num@8 init:i[0]@5 name:b@16 name:i@27 give[3]@22 loop=1[1,2,4]@0",
		"loop(i:=0,s:=a)while i<n do{t=i;u=t;next s=t;next i=u;}give(s,i)":    "num@8 init:i[0]@5 name:a@13 init:s[2]@10 name:i@21 name:n@23 lt[4,5]@22 bind:t@28 name:i@30 set=1[7,8]@29 bind:u@32 name:t@34 set=1[10,11]@33 name:t@43 next:s[13]@36 name:u@52 next:i[15]@45 name:s@60 name:i@62 give[17,18]@55 loop=2[1,3,6,9,12,14,16,19]@0",
		"array(n){[0]=1}":                                                     "name:n@6 bound@10 num=1@13 cell[1,2]@9 array[0,3]@0",
		"array(n,100){[#]=1;[#-100]=2;[100]=3}":                               "name:n@6 bound:#@14 num=1@17 cell[1,2]@13 bound:#=100@20 num=2@27 cell[4,5]@19 bound=100@30 num=3@35 cell[7,8]@29 array=100[0,3,6,9]@0",
		"array(n,0){[i in 1..#-1]=a;[j in #..9 by 9]=b;[k in #-1..# by 1]=c}": "name:n@6 bound=1@17 bound:#=1@20 name:a@25 span:i=1[1,2,3]@11 bound:#@33 bound=9@36 name:b@44 span:j=9[5,6,7]@27 bound:#=1@52 bound:#@57 name:c@65 span:k=1[9,10,11]@46 array[0,4,8,12]@0",
	} {
		if l := told(expr(t, s)); l != want {
			t.Errorf("%q\n%s\n%s", s, l, want)
		}
	}
}

// P2.1: random trees are read from their texts, places and all; brackets and gaps do not matter.
func TestParseRandom(t *testing.T) {
	r := rand.New(rand.NewSource(1))
	kinds := map[uint8]bool{}
	for range 1500 {
		want, s := grown(r, 4, 4)
		x, at, e := parse.Parse(s)
		if !equal(x, want) || at != 0 || e != api.OK {
			t.Fatalf("%q\n%s\n%s\n%d %v", s, toldTree(x), toldTree(want), at, e)
		}
		for _, n := range x.Nodes {
			kinds[n.Kind] = true
		}
	}
	if len(kinds) != len(kindWords()) {
		t.Error("not all kinds were made", len(kinds))
	}
}

// P2.1: the grammar does not go on.
func TestParseForm(t *testing.T) {
	for _, s := range []string{"x", "def", "def 1", "def f", "def f(", "def f(a", "def f(a:", "def f(a: int", "def f(a: int,", "def f(a: int,)", "def f(,)", "def f()", "def f() ->", "def f() -> {", "def f() -> int,", "def f() -> [int", "def f() -> stream", "def f() -> a", "def f() -> int", "def f() -> int {", "def f() -> int { }", "def f() -> int { give", "def f() -> int { give }", "def f() -> int { give 1", "def f() -> int { give 1;", "def f() -> int { give 1,", "def f() -> int { a", "def f() -> int { a =", "def f() -> int { a = 1", "def f() -> int { a = 1 }", "def f() -> int { a : = 1", "def f() -> int { a, = 1", "def f() -> int { a = 1; }", "def f() -> int { a + 1", "def f() -> int { next a = 1", "def if() ->", "def f() -> int { give 1 } }", "def f() -> int { give 1 } def", "def f() -> int { give 1 } give"} {
		want := newRecognizer().wrong(s)
		if x, at, e := parse.Parse(s); want < 0 || at != want || e != api.ErrForm || len(x.Nodes)+len(x.Items) != 0 {
			t.Errorf("%q %d %d %v", s, at, want, e)
		}
	}
	for i, x := range []struct {
		s  string
		at int
	}{
		{"def f() -> int { give 1; }", 23}, {"def f( -> int", 7}, {"def f()", 7}, {"def f() ~ end\n", 14}, {" x", 1}, {"def f() -> int { give 1 }\n}", 26}, {"def f() -> int { give 1 } ~ x\ndef g(", 36},
		{def("a < b < c"), 28}, {def("(a == b) != c"), -1}, {def("a == b != c"), 29}, {def("a + not b"), 26}, {def("-not a"), 23}, {def("a < not b"), 26}, {def("not a < not b"), 30}, {def("not a < b > c"), 32}, {def("a and not b"), -1}, {def("a or"), 27}, {def("a :: "), 28}, {def("a[b"), 26}, {def("a[]"), 24}, {def("[a]"), 22}, {def("(a"), 25}, {def("()"), 23}, {def("a b"), 24}, {def("a(1)(2)"), 26}, {def("1(2)"), 23},
		{def("f(1"), 26}, {def("f(1,)"), 26}, {def("f(,)"), 24}, {def("head()"), 27}, {def("head(a, b)"), 28}, {def("head a"), 27}, {def("nil(a)"), 26}, {def("nil()"), 26}, {def("nil(int, int)"), 29}, {def("+a"), 22}, {def("true false"), 27}, {def("in"), 22}, {def("next"), 22}, {def(""), 23},
		{def("if a { give 1 }"), 38}, {def("if a { give 1 } else give 2"), 43}, {def("if { give 1 } else { give 2 }"), 25}, {def("if a give 1"), 27}, {def("else"), 22},
		{def("loop() while a do { } give(1)"), 27}, {def("loop(i = 1) while a do { } give(1)"), 29}, {def("loop(i := 1,) while a do { } give(1)"), 34}, {def("loop(i := 1) a do { } give(1)"), 35}, {def("loop(i := 1) while do { } give(1)"), 41}, {def("loop(i := 1) while a { } give(1)"), 43}, {def("loop(i := 1) while a do give(1)"), 46}, {def("loop(i := 1) while a do { next i = 1 } give(1)"), 59}, {def("loop(i := 1) while a do { next i = 1; x = 1; } give(1)"), 60}, {def("loop(i := 1) while a do { x = 1; give 1 }"), 55}, {def("loop(i := 1) while a do { next 1 = 1; }"), 53}, {def("loop(i := 1) while a do { next i: int = 1; }"), 54}, {def("loop(i := 1) while a do { } give 1"), 55}, {def("loop(i := 1) while a do { } give()"), 55}, {def("loop(i := 1) while a do { } (1)"), 50},
		{def("array(1) { }"), 33}, {def("array() { [0] = 1 }"), 28}, {def("array(1, a) { [0] = 1 }"), 31}, {def("array(1, 2, 3) { [0] = 1 }"), 32}, {def("array(1, -1) { [0] = 1 }"), 31}, {def("array(1) { [0] = 1; }"), 42}, {def("array(1) { [0] = 1, [1] = 2 }"), 40}, {def("array(1) { [i] = 1 }"), 35}, {def("array(1) { [-1] = 1 }"), 34}, {def("array(1) { [0..1] = 1 }"), 35}, {def("array(1) { [# + 1] = 1 }"), 36}, {def("array(1) { [# - #] = 1 }"), 38}, {def("array(1) { [# - a] = 1 }"), 38}, {def("array(1) { [1 - 1] = 1 }"), 36}, {def("array(1) { [i in 0] = 1 }"), 40}, {def("array(1) { [i in 0..] = 1 }"), 42}, {def("array(1) { [i in 0..1 by #] = 1 }"), 47}, {def("array(1) { [i in 0..1 by] = 1 }"), 46}, {def("array(1) { [i in 0..a] = 1 }"), 42}, {def("array(1) { 0 = 1 }"), 33}, {def("array(1) { [0] 1 }"), 37},
	} {
		y, at, e := parse.Parse(x.s)
		if x.at < 0 && e != api.OK || x.at >= 0 && (at != x.at || e != api.ErrForm || len(y.Nodes)+len(y.Items) != 0) {
			t.Errorf("%d %q %d %v", i, x.s, at, e)
		}
		if want := newRecognizer().wrong(x.s); want != x.at {
			t.Errorf("%d %q: the grammar ends at %d", i, x.s, want)
		}
	}
}

// spoiled changes a few tokens of a text.
func spoiled(r *rand.Rand, s string) string {
	l, _, _ := lex.Read(s)
	words := append(append(api.Keywords(), api.Signs()...), "a", "f", "1", "0", "def", "{", "}", "(", ")", ";", ",", "=", "[")
	var out []string
	for _, x := range l {
		out = append(out, x.Text)
	}
	for range 1 + r.Intn(3) {
		i := r.Intn(len(out) + 1)
		word := words[r.Intn(len(words))]
		switch {
		case i == len(out) || r.Intn(3) == 0:
			out = append(out[:i:i], append([]string{word}, out[i:]...)...)
		case r.Intn(2) == 0:
			out[i] = word
		default:
			out = append(out[:i:i], out[i+1:]...)
		}
	}
	if r.Intn(4) == 0 {
		out = out[:r.Intn(len(out)+1)]
	}
	for i := range out {
		out[i] += []string{" ", " ", "\n", "~ x\n"}[r.Intn(4)]
	}
	return strings.Join(out, "")
}

// P2.1: where texts with some wrong tokens fail, as the grammar says it.
func TestParseSpoiled(t *testing.T) {
	r := rand.New(rand.NewSource(2))
	z := newRecognizer()
	wrong := 0
	for range 2500 {
		_, s := grown(r, 2, 2)
		s = spoiled(r, s)
		if l, _, e := lex.Read(s); e != api.OK || len(l) > 100 {
			continue
		}
		want := z.wrong(s)
		_, at, e := parse.Parse(s)
		if want >= 0 && (at != want || e != api.ErrForm) || want < 0 && e == api.ErrForm {
			t.Fatalf("%q %d %d %v", s, at, want, e)
		}
		if want >= 0 {
			wrong++
		}
	}
	if wrong < 1000 {
		t.Error("too few texts were wrong", wrong)
	}
}

// sizes are expressions with so many parts each, the greatest number that there may be of them, and the place where there are too many.
func sizes() []struct {
	make func(n int) string
	most int
	at   int
} {
	list := func(n int, part string) string { return strings.TrimSuffix(strings.Repeat(part+", ", n), ", ") }
	type size = struct {
		make func(n int) string
		most int
		at   int
	}
	return []size{
		{func(n int) string { return "def f(" + list(n, "a: int") + ") -> int { give 1 }" }, 5, 0},
		{func(n int) string { return "def f() -> " + list(n, "int") + " { give 1 }" }, 4, 0},
		{func(n int) string { return "def f() -> int { give " + list(n, "1") + " }" }, 4, 15},
		{func(n int) string { return "def f() -> int { " + list(n, "a") + "= 1; give 1 }" }, 4, 0},
		{func(n int) string { return "def f() -> int { " + strings.Repeat("a = 1; ", n) + "give 1 }" }, 12, 15},
		{func(n int) string { return def("1 + f(" + list(n, "1") + ")") }, 5, 26},
		{func(n int) string { return def("if a { give " + list(n, "1") + " } else { give 1 }") }, 4, 27},
		{func(n int) string { return def("if a { give 1 } else { " + strings.Repeat("a = 1; ", n) + "give 1 }") }, 12, 43},
		{func(n int) string { return def("loop(" + list(n, "a := 1") + ") while a do { } give(1)") }, 5, 22},
		{func(n int) string {
			return def("loop(a := 1) while a do { " + strings.Repeat("a = 1; ", n) + "} give(1)")
		}, 12, 22},
		{func(n int) string {
			return def("loop(a := 1) while a do { " + strings.Repeat("next a = 1; ", n) + "} give(1)")
		}, 5, 22},
		{func(n int) string { return def("loop(a := 1) while a do { } give(" + list(n, "1") + ")") }, 4, 50},
		{func(n int) string { return def("array(1) { [0] = 1" + strings.Repeat("; [i in 0..1] = 1", n-1) + " }") }, 8, 22},
		{func(n int) string { return def(fmt.Sprint("array(1, ", n, ") { [0] = 1 }")) }, 100, 22},
		{func(n int) string { return def(fmt.Sprint("array(1) { [", n, "] = 1 }")) }, 100, 34},
		{func(n int) string { return def(fmt.Sprint("array(1) { [# - ", n, "] = 1 }")) }, 100, 34},
		{func(n int) string { return def(fmt.Sprint("array(1) { [i in ", n, "..1] = 1 }")) }, 100, 39},
		{func(n int) string { return def(fmt.Sprint("array(1) { [i in 1..# - ", n, "] = 1 }")) }, 100, 42},
		{func(n int) string { return def(fmt.Sprint("array(1) { [i in 0..1 by ", n, "] = 1 }")) }, 9, 33},
	}
}

// P2.1: each of the sizes, and one more.
func TestParseSizes(t *testing.T) {
	for i, x := range sizes() {
		s := x.make(x.most)
		if y, at, e := parse.Parse(s); len(y.Items) != 1 || at != 0 || e != api.OK {
			t.Errorf("%d %q %d %v", i, s, at, e)
		}
		s = x.make(x.most + 1)
		place := x.at
		if i == 3 {
			place = strings.Index(s, "=")
		}
		if y, at, e := parse.Parse(s); len(y.Nodes)+len(y.Items) != 0 || at != place || e != api.ErrRange {
			t.Errorf("%d %q %d %v", i, s, at, e)
		}
	}
	for i, x := range []struct {
		s  string
		at int
	}{
		{def("array(1) { [i in 0..1 by 0] = 1 }"), 33}, {def("array(1) { [0] = 1000000000 }"), -1}, {def("array(1) { [1000000000] = 1 }"), 34},
		// The first one by numbers: what ends first, not what begins first.
		{def("array(1, 101) { [101] = f(1, 1, 1, 1, 1, 1) }"), 39}, {def("f(1, 1, 1, 1, 1, g(1, 1, 1, 1, 1, 1))"), 39}, {def("g(f(1, 1, 1, 1, 1, 1), 1, 1, 1, 1, 1)"), 24}, {"def f(a: int, a: int, a: int, a: int, a: int, a: int) -> int { give 1, 1, 1, 1, 1 }", 61},
	} {
		if _, at, e := parse.Parse(x.s); x.at < 0 && e != api.OK || x.at >= 0 && (at != x.at || e != api.ErrRange) {
			t.Errorf("%d %d %v", i, at, e)
		}
	}
}

// wide is a text with this number of nodes, from 687 on: 340 in each of two defs, and 7 in a third one without its bars.
func wide(nodes int) string {
	set := func(bars int) string { return "a=" + strings.Repeat("-", bars) + "1;" }
	full := "def f()->int{" + strings.Repeat(set(25), 12) + "give 1}"
	return full + full + "def f()->int{" + set(nodes-687) + "give 1}"
}

// P2.1, P2.2: MaxNodes nodes, MaxDefs items, MaxDeep nodes one in the other; and one more of each.
func TestParseLimits(t *testing.T) {
	bars := func(n int) string { return def(strings.Repeat("-", n) + "1") }
	many := func(n int) string { return strings.Repeat("def f()->int{give 1}\n", n) }
	for i, x := range []struct {
		s string
		e api.Errno
	}{
		{wide(700), api.OK}, {wide(701), api.ErrLimit}, {many(20), api.OK}, {many(21), api.ErrLimit}, {bars(27), api.OK}, {bars(28), api.ErrLimit}, {def(strings.Repeat("(", 400) + "1" + strings.Repeat(")", 400)), api.OK}, {"def f() -> " + strings.Repeat("stream ", 28) + "int { give 1 }", api.OK}, {"def f() -> " + strings.Repeat("stream ", 29) + "int { give 1 }", api.ErrLimit}, {"def f() -> int { a: " + strings.Repeat("[", 25) + "int" + strings.Repeat("]", 25) + "= 1; give 1 }", api.OK}, {"def f() -> int { a: " + strings.Repeat("[", 26) + "int" + strings.Repeat("]", 26) + "= 1; give 1 }", api.ErrLimit},
	} {
		y, at, e := parse.Parse(x.s)
		z, flaws, place, f := parse.Recover(x.s)
		if e != x.e || f != x.e || at != 0 || place != 0 || len(flaws) != 0 || !equal(y, z) || e != api.OK && len(y.Nodes)+len(y.Items) != 0 {
			t.Error(i, at, e, f)
		}
	}
	if x := tree(t, wide(700)); len(x.Nodes) != 700 {
		t.Error(len(x.Nodes))
	}
	// A part that is not deep behind one that is.
	if _, at, e := parse.Parse(bars(28) + "def g() -> int { give 1 }"); at != 0 || e != api.ErrLimit {
		t.Error(at, e)
	}
}

// P2.1, R1: the errors in their order: of tokens, of the grammar, of limits, of sizes.
func TestParseOrder(t *testing.T) {
	limit, size := strings.Repeat(def("1"), 21), def("f(1, 1, 1, 1, 1, 1)")
	deep := def(strings.Repeat("-", 28) + "1")
	for i, x := range []struct {
		s  string
		at int
		e  api.Errno
	}{
		{"x !", 2, api.ErrForm}, {"def f( 007", 7, api.ErrForm}, {"x" + strings.Repeat(" ", 2500), 0, api.ErrLimit}, {"x " + strings.Repeat("(", 900), 901, api.ErrLimit}, {"def \t", 4, api.ErrForm},
		{limit + "x", 525, api.ErrForm}, {size + "x", 43, api.ErrForm}, {deep + " def", 57, api.ErrForm}, {size + limit, 0, api.ErrLimit}, {deep + size, 0, api.ErrLimit}, {size + deep, 0, api.ErrLimit}, {def("1") + size, 25 + 22, api.ErrRange}, {size + size, 22, api.ErrRange},
	} {
		if y, at, e := parse.Parse(x.s); at != x.at || e != x.e || len(y.Nodes)+len(y.Items) != 0 {
			t.Error(i, at, e)
		}
	}
}

// P2.10: in a parsed tree no two nodes have the same own token, and it is the right one; Find finds the node.
func TestOwnTokens(t *testing.T) {
	own := map[uint8]string{api.ConsNode: "::", api.OrNode: "or", api.AndNode: "and", api.EqNode: "==", api.NeNode: "!=", api.LtNode: "<", api.LeNode: "<=", api.GtNode: ">", api.GeNode: ">=", api.AddNode: "+", api.SubNode: "-", api.MulNode: "*", api.DivNode: "/", api.ModNode: "%", api.ReadNode: "[", api.NotNode: "not", api.NegNode: "-", api.HeadNode: "head", api.TailNode: "tail", api.EmptyNode: "empty", api.SizeNode: "size", api.NilNode: "nil", api.IfNode: "if", api.LoopNode: "loop", api.ArrayNode: "array", api.BlockNode: "{", api.SetNode: "=", api.NextNode: "next", api.GiveNode: "give", api.CellNode: "[", api.SpanNode: "[", api.IntType: "int", api.BoolType: "bool", api.ArrayType: "[", api.StreamType: "stream", api.DefItem: "def"}
	r := rand.New(rand.NewSource(10))
	for range 300 {
		_, s := grown(r, 3, 3)
		x := tree(t, s)
		l, _, _ := lex.Read(s)
		tokens, taken := map[int]string{}, map[int]bool{}
		for _, y := range l {
			tokens[y.At] = y.Text
		}
		for i, n := range x.Nodes {
			want, ok := own[n.Kind]
			switch {
			case ok:
			case n.Kind == api.BoolNode:
				want = fmt.Sprint(n.N == 1)
			case n.Text != "":
				want = n.Text
			default:
				want = fmt.Sprint(n.N)
			}
			if tokens[n.At] != want || taken[n.At] {
				t.Fatal(s, i, n, tokens[n.At])
			}
			taken[n.At] = true
			if found, e := parse.Find(x, n.At); found != i || e != api.OK {
				t.Fatal(s, i, found, e)
			}
		}
	}
}

// P2.10: an expression that is shown is parsed as itself.
func TestShownExpressions(t *testing.T) {
	r := rand.New(rand.NewSource(11))
	for range 100 {
		_, s := grown(r, 2, 4)
		x := tree(t, s)
		for i, n := range x.Nodes {
			if n.Kind > api.ArrayNode {
				continue
			}
			text, e := parse.Show(x, i)
			y, at, f := parse.Parse("def q() -> int { give " + text + " }")
			first, _ := parse.First(x, i)
			if e != api.OK || f != api.OK || len(y.Nodes) != i-first+4 {
				t.Fatal(text, e, at, f)
			}
			for k, m := range y.Nodes[1 : len(y.Nodes)-2] {
				want := x.Nodes[first+k]
				if m.Kind != want.Kind || m.Text != want.Text || m.N != want.N || len(m.Kids) != len(want.Kids) || len(m.Kids) > 0 && m.Kids[0]-1 != want.Kids[0]-first {
					t.Fatal(text, k, m, want)
				}
			}
		}
	}
}
