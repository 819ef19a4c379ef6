package parse_test

import (
	"math/rand"
	"slices"
	"strings"
	"testing"

	"floodgate/api"
	"floodgate/lex"
	"floodgate/parse"
)

// P2.4: how expressions are printed: blanks, and brackets just where the grammar asks for them.
func TestPrintExpressions(t *testing.T) {
	for _, x := range [][2]string{
		{"0", "0"}, {"1000000000", "1000000000"}, {"true", "true"}, {"false", "false"}, {"a", "a"}, {"(((a)))", "a"},
		{"a::b", "a :: b"}, {"a or b", "a or b"}, {"a and b", "a and b"}, {"a==b", "a == b"}, {"a!=b", "a != b"}, {"a<b", "a < b"}, {"a<=b", "a <= b"}, {"a>b", "a > b"}, {"a>=b", "a >= b"}, {"a+b", "a + b"}, {"a-b", "a - b"}, {"a*b", "a * b"}, {"a/b", "a / b"}, {"a%b", "a % b"}, {"not  a", "not a"}, {"- a", "-a"}, {"a [ b ]", "a[b]"},
		{"head ( a )", "head(a)"}, {"tail (a)", "tail(a)"}, {"empty (a)", "empty(a)"}, {"size (a)", "size(a)"}, {"nil ( int )", "nil(int)"}, {"nil([bool])", "nil([bool])"}, {"nil(stream[int])", "nil(stream [int])"}, {"nil([[stream bool]])", "nil([[stream bool]])"},
		{"f ( )", "f()"}, {"f ( a )", "f(a)"}, {"f(a ,b,-c)", "f(a, b, -c)"}, {"f((a),(b::c))", "f(a, b :: c)"}, {"f((a or b)and c)", "f((a or b) and c)"}, {"head((a::b)::c)", "head((a :: b) :: c)"},
		// Brackets on both sides of each operator.
		{"(a::b)::c", "(a :: b) :: c"}, {"a::(b::c)", "a :: b :: c"}, {"(a or b)::(c or d)", "a or b :: c or d"}, {"(a::b)or c", "(a :: b) or c"}, {"a or(b::c)", "a or (b :: c)"}, {"(a or b)or c", "a or b or c"}, {"a or(b or c)", "a or (b or c)"}, {"(a and b)or(c and d)", "a and b or c and d"}, {"(a or b)and(c or d)", "(a or b) and (c or d)"}, {"(a and b)and c", "a and b and c"}, {"a and(b and c)", "a and (b and c)"}, {"(not a)and(not b)", "not a and not b"}, {"not(a and b)", "not (a and b)"}, {"not(not a)", "not not a"}, {"not(a==b)", "not a == b"}, {"(not a)==b", "(not a) == b"}, {"a==(not b)", "a == (not b)"}, {"(a==b)==c", "(a == b) == c"}, {"a!=(b>=c)", "a != (b >= c)"}, {"(a<b)and(c>d)", "a < b and c > d"},
		{"(a+b)<(c-d)", "a + b < c - d"}, {"(a<b)+c", "(a < b) + c"}, {"a-(b<=c)", "a - (b <= c)"}, {"(a-b)-c", "a - b - c"}, {"a-(b-c)", "a - (b - c)"}, {"a+(b+c)", "a + (b + c)"}, {"(a*b)+(c*d)", "a * b + c * d"}, {"(a+b)*(c-d)", "(a + b) * (c - d)"}, {"(a/b)/c", "a / b / c"}, {"a/(b%c)", "a / (b % c)"}, {"(-a)*(-b)", "-a * -b"}, {"-(a*b)", "-(a * b)"}, {"-(-a)", "--a"}, {"-(a+b)", "-(a + b)"}, {"a-(-b)", "a - -b"}, {"-(a::b)", "-(a :: b)"}, {"-(not a)", "-(not a)"}, {"not(-a)", "not -a"},
		{"-(a[0])", "-a[0]"}, {"(-a)[0]", "(-a)[0]"}, {"(a+b)[0]", "(a + b)[0]"}, {"(not a)[0]", "(not a)[0]"}, {"(a::b)[0]", "(a :: b)[0]"}, {"(a[0])[1]", "a[0][1]"}, {"a[(b::c)]", "a[b :: c]"}, {"a[(b[0])]", "a[b[0]]"}, {"a[(b+c)*d]", "a[(b + c) * d]"}, {"f()[0]", "f()[0]"}, {"1[0]", "1[0]"}, {"nil(int)[0]", "nil(int)[0]"}, {"true[0]", "true[0]"}, {"head(a)[0]", "head(a)[0]"},
		// Atoms with parts need no brackets anywhere.
		{"if a{give 1}else{b=2;give 3}", "if a { give 1 } else { b = 2; give 3 }"}, {"if(a::b){x,y:int,z=f();w:[int]=y;give x,(y)}else{give(a)}", "if a :: b { x, y: int, z = f(); w: [int] = y; give x, y } else { give a }"}, {"(if a{give 1}else{give 2})+(if b{give 3}else{give 4})[0]", "if a { give 1 } else { give 2 } + if b { give 3 } else { give 4 }[0]"}, {"-(if a{give 1}else{give 2})", "-if a { give 1 } else { give 2 }"}, {"if(if a{give b}else{give c}){give 1}else{give 2}", "if if a { give b } else { give c } { give 1 } else { give 2 }"}, {"if a{give(a::b)::c}else{give -1}", "if a { give (a :: b) :: c } else { give -1 }"},
		{"loop(i:=0,s:=nil(int))while i<n do{t=i;next i=t+1;}give(s,-i)", "loop(i := 0, s := nil(int)) while i < n do { t = i; next i = t + 1; } give(s, -i)"}, {"loop ( i:=(a::b) ) while true do { } give ( i )", "loop(i := a :: b) while true do { } give(i)"}, {"loop(i:=0)while a do{next i=1;next j=2;}give(i)", "loop(i := 0) while a do { next i = 1; next j = 2; } give(i)"}, {"loop(i:=0)while a do{x,y=i;}give((i),(a or b)and c)", "loop(i := 0) while a do { x, y = i; } give(i, (a or b) and c)"}, {"(loop(i:=0)while a do{}give(i))[0]", "loop(i := 0) while a do { } give(i)[0]"},
		{"array ( n ) { [ 0 ]=1 }", "array(n) { [0] = 1 }"}, {"array(n,0){[0]=1}", "array(n) { [0] = 1 }"}, {"array(n,1){[0]=1}", "array(n, 1) { [0] = 1 }"}, {"array((a::b),100){[ # ]=(1);[#-0]=2;[#-1]=3;[100]=4}", "array(a :: b, 100) { [#] = 1; [#] = 2; [# - 1] = 3; [100] = 4 }"}, {"array(n,2){[0]=1;[i in 1..#-1]=a[i-1]+1}", "array(n, 2) { [0] = 1; [i in 1..# - 1] = a[i - 1] + 1 }"}, {"array(n){[i in # .. # by 1]=1;[j in #-2 .. 9 by 2]=2;[k in 0..#-9 by 9]=3}", "array(n) { [i in #..#] = 1; [j in # - 2..9 by 2] = 2; [k in 0..# - 9 by 9] = 3 }"}, {"(array(1){[0]=1})[0]", "array(1) { [0] = 1 }[0]"},
	} {
		y := tree(t, def(x[0]))
		last := len(y.Nodes) - 3
		text, e := parse.Show(y, last)
		if text != x[1] || e != api.OK {
			t.Errorf("%q\n%q\n%q %v", x[0], text, x[1], e)
		}
		whole, e := parse.Print(y)
		if whole != def(x[1])+"\n" || e != api.OK {
			t.Errorf("%q %q %v", x[0], whole, e)
		}
	}
}

// P2.4, P2.9: each operator with each kind of expression on each side.
func TestPrintOperands(t *testing.T) {
	var all []lit
	for _, l := range samples() {
		if l.kind <= api.ArrayNode {
			all = append(all, l)
		}
	}
	a := of(api.NameNode, "a")
	for _, x := range all {
		for kind := api.ConsNode; kind <= api.SizeNode; kind++ {
			tries := []lit{of(kind, "", x)}
			if kind <= api.ReadNode {
				tries = []lit{of(kind, "", x, a), of(kind, "", a, x)}
			}
			for _, l := range tries {
				y := l.around()
				want := shown(y, y.Items[0]) + "\n"
				text, e := parse.Print(y)
				if text != want || e != api.OK {
					t.Fatalf("%q %q %v", text, want, e)
				}
				if same, e := parse.Same(y, tree(t, text)); !same || e != api.OK {
					t.Fatalf("%q %v", text, e)
				}
			}
		}
	}
}

// P2.4: how items and their parts are printed, each node of them.
func TestPrintItems(t *testing.T) {
	for s, want := range map[string]string{
		"": "", "~ so": "", "def f()->int{give(1)+(2*3)}": "def f() -> int { give 1 + 2 * 3 }\n",
		"def f(a: int, b: [bool])->int,stream int{x:int,y=g();give y}~ so\ndef g()->[int]{give 1,2}": "def f(a: int, b: [bool]) -> int, stream int { x: int, y = g(); give y }\ndef g() -> [int] { give 1, 2 }\n",
		"def f(a:stream[int])->stream stream bool,bool{a=1;b=2;give a,b}":                            "def f(a: stream [int]) -> stream stream bool, bool { a = 1; b = 2; give a, b }\n",
	} {
		if text, e := parse.Print(tree(t, s)); text != want || e != api.OK {
			t.Errorf("%q %q %v", s, text, e)
		}
	}
	for s, want := range map[string][]string{
		"def f(a: int, b: [bool]) -> int, stream int { x: int, y = g(); give y }":                                          {"int", "a: int", "bool", "[bool]", "b: [bool]", "int", "int", "stream int", "int", "x: int", "y", "g()", "x: int, y = g()", "y", "{ x: int, y = g(); give y }", "def f(a: int, b: [bool]) -> int, stream int { x: int, y = g(); give y }"},
		def("loop(i := 0) while true do { next i = 1; } give(array(1, 1) { [# - 1] = 2; [i2 in 0..# - 1 by 3] = not a })"): {"int", "0", "i := 0", "true", "1", "next i = 1", "1", "# - 1", "2", "[# - 1] = 2", "0", "# - 1", "a", "not a", "[i2 in 0..# - 1 by 3] = not a", "array(1, 1) { [# - 1] = 2; [i2 in 0..# - 1 by 3] = not a }", "give(array(1, 1) { [# - 1] = 2; [i2 in 0..# - 1 by 3] = not a })"},
	} {
		y := tree(t, s)
		for i, part := range want {
			if text, e := parse.Show(y, i); text != part || e != api.OK {
				t.Errorf("%d %q %q %v", i, text, part, e)
			}
		}
	}
}

// P2.4: random trees are printed as another printer does it, and all of their nodes.
func TestPrintRandom(t *testing.T) {
	r := rand.New(rand.NewSource(7))
	for range 500 {
		x, _ := grown(r, 3, 3)
		want := ""
		for _, item := range x.Items {
			want += shown(x, item) + "\n"
		}
		if text, e := parse.Print(x); len(want) <= 2500 && (text != want || e != api.OK) || len(want) > 2500 && (text != "" || e != api.ErrLimit) {
			t.Fatalf("%s\n%q\n%q %v", toldTree(x), text, want, e)
		}
		for range min(20, len(x.Nodes)) {
			node := r.Intn(len(x.Nodes))
			want := shown(x, node)
			if text, e := parse.Show(x, node); len(want) <= 2500 && (text != want || e != api.OK) || len(want) > 2500 && (text != "" || e != api.ErrLimit) {
				t.Fatalf("%s\n%q\n%q %v", toldTree(x), text, want, e)
			}
		}
	}
}

// long is an item whose text has so many bytes, from 100 to 2500.
func long(size int) lit {
	name := strings.Repeat("a", 12)
	var sets []lit
	all := func() lit { return of(api.DefItem, "f", intType, block(append(slices.Clone(sets), one)...)) }
	bytes := func() int { return len(shown(built(all()), len(built(all()).Nodes)-1)) }
	for len(sets) < 12 && size-bytes() >= 2*12+5 {
		left := (size-bytes()-(12+5))/14 - 3
		var args []lit
		for range min(5, left) {
			var inner []lit
			for range 5 {
				inner = append(inner, of(api.NameNode, name))
			}
			if call := of(api.CallNode, name, inner...); len(args)*84 <= size-bytes()-200 {
				args = append(args, call)
			}
		}
		sets = append(sets, of(api.SetNode, "", of(api.BindNode, name), of(api.CallNode, name, args...)))
	}
	for i := 0; bytes() < size; i++ {
		// A bar more is a byte more.
		value := &sets[i%len(sets)].kids[1]
		*value = of(api.NegNode, "", *value)
	}
	return all()
}

// P2.4: texts that are too long, and the errors in their order.
func TestPrintLimits(t *testing.T) {
	for i, x := range []struct {
		size        int
		print, show api.Errno
	}{{2498, api.OK, api.OK}, {2499, api.OK, api.OK}, {2500, api.ErrLimit, api.OK}, {2501, api.ErrLimit, api.ErrLimit}, {2510, api.ErrLimit, api.ErrLimit}} {
		y := built(long(x.size))
		if parse.Check(y) != api.OK || len(shown(y, y.Items[0])) != x.size {
			t.Fatal(i, parse.Check(y), len(shown(y, y.Items[0])))
		}
		text, e := parse.Print(y)
		if e != x.print || e == api.OK && len(text) != x.size+1 || e != api.OK && text != "" {
			t.Error(i, len(text), e)
		}
		text, e = parse.Show(y, y.Items[0])
		if e != x.show || e == api.OK && len(text) != x.size || e != api.OK && text != "" {
			t.Error(i, len(text), e)
		}
		// A part of what is too long is not, and what is not there comes first.
		if text, e := parse.Show(y, 0); text != "int" || e != api.OK {
			t.Error(i, text, e)
		}
		for _, node := range []int{-1, len(y.Nodes)} {
			if text, e := parse.Show(y, node); text != "" || e != api.ErrNone {
				t.Error(i, text, e)
			}
		}
	}
	// More items than fit, and more tokens than a text may have.
	two := built(long(1300), long(1300))
	if text, e := parse.Print(two); text != "" || e != api.ErrLimit {
		t.Error(len(text), e)
	}
	call := of(api.CallNode, "f", one, one, one, one, one)
	set := of(api.SetNode, "", of(api.BindNode, "a"), call)
	item := of(api.DefItem, "f", intType, block(append(slices.Repeat([]lit{set}, 12), one)...))
	text, e := parse.Print(built(slices.Repeat([]lit{item}, 5)...))
	if _, at, f := lex.Read(text); e != api.OK || at == 0 || f != api.ErrLimit {
		t.Error(len(text), e, at, f)
	}
}

// P2.9: what is printed is parsed as the same tree, and printed again it is the same text.
func TestPrintedAndParsed(t *testing.T) {
	r := rand.New(rand.NewSource(9))
	for range 500 {
		x, _ := grown(r, 3, 3)
		text, e := parse.Print(x)
		if _, _, f := lex.Read(text); e == api.ErrLimit || f == api.ErrLimit {
			continue
		}
		y, at, f := parse.Parse(text)
		same, g := parse.Same(x, y)
		again, h := parse.Print(y)
		if !same || again != text || e != api.OK || at != 0 || f != api.OK || g != api.OK || h != api.OK {
			t.Fatalf("%s\n%q\n%q %v %d %v", toldTree(x), text, again, e, at, f)
		}
	}
}

// P2.9: no brackets can be left out of what is printed.
func TestPrintedBrackets(t *testing.T) {
	r := rand.New(rand.NewSource(19))
	pairs := 0
	for range 300 {
		x, _ := grown(r, 1, 4)
		text, e := parse.Print(x)
		if e != api.OK {
			continue
		}
		var open []int
		for i := range len(text) {
			if text[i] == '(' {
				open = append(open, i)
			}
			if text[i] != ')' {
				continue
			}
			from := open[len(open)-1]
			open = open[:len(open)-1]
			if text[from+1] == ')' {
				continue
			}
			pairs++
			less := text[:from] + " " + text[from+1:i] + " " + text[i+1:]
			if y, _, e := parse.Parse(less); e == api.OK {
				if same, _ := parse.Same(x, y); same {
					t.Fatalf("%q needs no brackets at %d", text, from)
				}
			}
		}
	}
	if pairs < 500 {
		t.Error(pairs)
	}
}

// P2.9: comments, other gaps and more brackets do not matter.
func TestOtherGaps(t *testing.T) {
	r := rand.New(rand.NewSource(29))
	for range 200 {
		x, s := grown(r, 3, 3)
		bare, _, _ := lex.Bare(s)
		l, _, _ := lex.Read(s)
		texts := []string{bare, s + " ~ def", "~ def f(\n" + bare}
		blanks := ""
		for i, y := range l {
			blanks += strings.Repeat(" ", r.Intn(2)+1) + y.Text
			if i%7 == 0 {
				blanks += "~ }\n"
			}
		}
		for _, text := range append(texts, blanks) {
			if _, _, e := lex.Read(text); e != api.OK {
				continue
			}
			y, at, e := parse.Parse(text)
			if same, f := parse.Same(x, y); !same || at != 0 || e != api.OK || f != api.OK {
				t.Fatalf("%q %d %v", text, at, e)
			}
		}
	}
	want := tree(t, def("a + b * c[0]"))
	for _, s := range []string{"(a + b * c[0])", "((a)) + (b * (c[(0)]))", "a + (b * c[0])", "(a) + ((b) * (c)[0])", "a + b * (c[0])"} {
		if same, e := parse.Same(want, tree(t, def(s))); !same || e != api.OK {
			t.Error(s, e)
		}
	}
}
