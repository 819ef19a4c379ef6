package parse_test

import (
	"math/rand"
	"slices"
	"strings"
	"testing"

	"floodgate/api"
	"floodgate/lex"
	"floodgate/parse"
)

// names are the names of the items of a tree.
func names(x api.Tree) string {
	s := ""
	for _, n := range x.Items {
		s += x.Nodes[n].Text
	}
	return s
}

func form(at int) api.Flaw { return api.Flaw{At: at, E: api.ErrForm} }

func size(at int) api.Flaw { return api.Flaw{At: at, E: api.ErrRange} }

// P2.2: the items without flaws, and the flaws.
func TestRecover(t *testing.T) {
	const g, h = "def g() -> int { give 2 }", "def h() -> int { give 3 }"
	const wide, inner = "def f() -> int, int, int, int, int { give 1 }", "def f() -> int { give\nf(1, 2, 3, 4, 5, 6) }"
	for i, x := range []struct {
		s     string
		items string
		flaws []api.Flaw
	}{
		{"", "", nil}, {"~ x", "", nil}, {"\n", "", nil}, {g, "g", nil}, {g + h, "gh", nil}, {g + "\n" + h, "gh", nil}, {" " + g + "~\n " + h, "gh", nil},
		{"def f() -> int { give }\n" + g, "g", []api.Flaw{form(22)}}, {"x " + g + "\n" + h, "h", []api.Flaw{form(0)}}, {"x\n" + g, "g", []api.Flaw{form(0)}}, {"\nx", "", []api.Flaw{form(1)}},
		// The end of the text.
		{"def f() -> int { give", "", []api.Flaw{form(21)}}, {"def f() -> int { give 1 ~\n ", "", []api.Flaw{form(27)}}, {g + "\ndef", "g", []api.Flaw{form(29)}}, {"def", "", []api.Flaw{form(3)}},
		// A def where the grammar does not go on is due itself if it begins a line, and not otherwise.
		{"def\n" + g, "g", []api.Flaw{form(4)}}, {"def f( " + g + "\n" + h, "h", []api.Flaw{form(7)}}, {"def f(\n" + g + "\n" + h, "gh", []api.Flaw{form(7)}}, {"def def\n" + g, "g", []api.Flaw{form(4)}}, {"def\n def\n" + g, "g", []api.Flaw{form(5)}}, {"def\n~\ndef\n" + g, "g", []api.Flaw{form(6), form(10)}}, {"def\ndef\ndef", "", []api.Flaw{form(4), form(8), form(11)}},
		// Behind an item, and behind what is none.
		{g + " } " + h, "g", []api.Flaw{form(26)}}, {g + " }\n" + h, "gh", []api.Flaw{form(26)}}, {g + "\n}\n " + h + "\n" + g, "gg", []api.Flaw{form(26)}}, {"a\nb\n" + g + "\nc\n" + h + "\nd", "gh", []api.Flaw{form(0), form(30), form(58)}}, {"1 2 3 def\n4 ~ def\n~\ndef " + g[4:], "g", []api.Flaw{form(0)}},
		// A def in a comment, or behind a blank, is not due.
		{"x ~ y\n~" + g + "\n" + h, "h", []api.Flaw{form(0)}}, {"x\n" + g[:24] + "~" + g, "", []api.Flaw{form(0), form(52)}}, {"x\n " + g, "", []api.Flaw{form(0)}},
		// Sizes, at the first node that has too many; what is due next stands behind the item.
		{wide + g + "\n" + h, "h", []api.Flaw{size(0)}}, {wide + "\n" + h, "h", []api.Flaw{size(0)}}, {g + "\n" + wide + "\n" + h + "\n" + wide, "gh", []api.Flaw{size(26), size(98)}}, {inner + "\n" + h, "h", []api.Flaw{size(22)}}, {inner + " " + g + "\n" + h, "h", []api.Flaw{size(22)}}, {g + inner, "g", []api.Flaw{size(47)}}, {wide, "", []api.Flaw{size(0)}}, {def("array(1) { [i in 0..1 by 0] = f(1, 1, 1, 1, 1, 1) }") + "\n" + g, "g", []api.Flaw{size(52)}}, {def("array(1) { [i in 0..1 by 0] = 1 }") + "\n" + g, "g", []api.Flaw{size(33)}},
		// A flaw of the grammar behind nodes that have not the sizes.
		{"def f() -> int, int, int, int, int { give }\n" + g, "g", []api.Flaw{form(42)}}, {wide + "\nx\n" + g, "g", []api.Flaw{size(0)}}, {wide + "\ndef\n" + g, "g", []api.Flaw{size(0), form(50)}},
	} {
		y, l, at, e := parse.Recover(x.s)
		if names(y) != x.items || !slices.Equal(l, x.flaws) || at != 0 || e != api.OK || parse.Check(y) != api.OK {
			t.Errorf("%d %q %s %v %d %v", i, x.s, names(y), l, at, e)
		}
	}
	// The items of the tree have their places in the text.
	y, _, _, _ := parse.Recover("x\n" + g)
	if want := "inttype@13 num=2@24 block[1]@17 def:g[0,2]@2 items [3]"; toldTree(y) != want {
		t.Error(toldTree(y))
	}
}

// P2.2: the errors of Recover.
func TestRecoverErrors(t *testing.T) {
	deep := def(strings.Repeat("-", 28) + "1")
	many := strings.Repeat("def f()->int{give 1}\n", 20)
	for i, x := range []struct {
		s  string
		at int
		e  api.Errno
	}{
		{"def ?", 4, api.ErrForm}, {"x 01", 2, api.ErrForm}, {"x\n\x80", 2, api.ErrForm}, {strings.Repeat(" ", 2501), 0, api.ErrLimit}, {strings.Repeat("x ", 901), 1800, api.ErrLimit}, {strings.Repeat("x ", 900), 0, api.OK},
		{many + many[:21], 0, api.ErrLimit}, {"x\n" + many + many[:21], 0, api.ErrLimit}, {many + "def f()->int{give }\nx", 0, api.OK}, {many + "def f()->int{give 1,1,1,1,1}", 0, api.OK}, {wide(701), 0, api.ErrLimit}, {wide(700) + "\nx", 0, api.OK}, {wide(701) + "\nx", 0, api.ErrLimit}, {wide(700) + "\n" + "def f()->int{give", 0, api.OK},
		{deep, 0, api.ErrLimit}, {"x\n" + deep + "\nx", 0, api.ErrLimit}, {deep + "\n" + def("1"), 0, api.ErrLimit}, {def("f(1,1,1,1,1," + strings.Repeat("-", 28) + "1)"), 0, api.OK}, {def(strings.Repeat("-", 28)), 0, api.OK},
	} {
		y, l, at, e := parse.Recover(x.s)
		if at != x.at || e != x.e || e != api.OK && len(y.Nodes)+len(y.Items)+len(l) != 0 {
			t.Error(i, len(y.Nodes), l, at, e)
		}
	}
}

// recoverAgain reads a text as the chapter says it, with the grammar for how far items go, and Parse for what they are.
func recoverAgain(t *testing.T, z *recognizer, s string) (x api.Tree, flaws []api.Flaw) {
	l, _, _ := lex.Read(s)
	due := func(i, place int) int {
		for i++; i < len(l); i++ {
			if _, column, _ := lex.Place(s, l[i].At); l[i].Text == "def" && column == 1 && l[i].At >= place {
				break
			}
		}
		return i
	}
	for i := 0; i < len(l); {
		good, ends := z.read("Def", l[i:])
		if len(ends) == 0 {
			at := len(s)
			if i+good < len(l) {
				at = l[i+good].At
			}
			flaws = append(flaws, form(at))
			i = due(i, at)
			continue
		}
		last := l[i+ends[0]-1]
		blanks := strings.Repeat(" ", l[i].At)
		y, at, e := parse.Parse(blanks + s[l[i].At:last.At+1])
		if e == api.ErrRange {
			flaws = append(flaws, size(at))
			i = due(i, at)
			continue
		}
		if e != api.OK {
			t.Fatal(s, at, e)
		}
		x, e = parse.Join(x, y)
		if e != api.OK {
			t.Fatal(s, e)
		}
		i += ends[0]
	}
	return x, flaws
}

// P2.2, P2.11: random texts with flaws, and the beginning of what Parse says of them.
func TestRecoverRandom(t *testing.T) {
	r := rand.New(rand.NewSource(3))
	z := newRecognizer()
	flaws, items := 0, 0
	for range 2500 {
		_, s := grown(r, 6, 1)
		s = spoiled(r, s)
		if r.Intn(3) == 0 {
			s += "\ndef f() -> int { give 1, 1, 1, 1, 1 }" + []string{"", " x", "\ndef g() -> int { give 1 }"}[r.Intn(3)]
		}
		if r.Intn(2) == 0 {
			s = strings.ReplaceAll(s, " def ", "\ndef ")
		}
		if l, _, e := lex.Read(s); e != api.OK || len(l) > 150 {
			continue
		}
		want, l := recoverAgain(t, z, s)
		y, m, at, e := parse.Recover(s)
		if !equal(y, want) || !slices.Equal(m, l) || at != 0 || e != api.OK {
			t.Fatalf("%q\n%s\n%s\n%v %v %d %v", s, toldTree(y), toldTree(want), m, l, at, e)
		}
		x, place, f := parse.Parse(s)
		if f == api.OK && (!equal(x, y) || len(m) != 0) || f != api.OK && len(m) == 0 || len(m) > 0 && m[0].E == api.ErrForm && m[0] != (api.Flaw{At: place, E: f}) {
			t.Fatalf("%q %v %d %v", s, m, place, f)
		}
		flaws += len(m)
		items += len(y.Items)
	}
	if flaws < 1000 || items < 1000 {
		t.Error("too little was tried", flaws, items)
	}
}

// P2.11: good items, each at the beginning of a line, with other texts between them.
func TestRecoverBetween(t *testing.T) {
	r := rand.New(rand.NewSource(4))
	between := []string{"", "\n", "x", "x y\n", "}", "{ give 1 }", "1 ~ def", "~ def\n", " def f(", "give 1 }\n(", "= ) ;;\n\n", "if"}
	for range 300 {
		var want api.Tree
		s, at := "", 0
		for range r.Intn(5) {
			x, part := grown(r, 1, 2)
			if len(x.Items) == 0 {
				continue
			}
			// Blanks and comments before a good item go, so that it begins its line.
			start := x.Nodes[len(x.Nodes)-1].At
			s += between[r.Intn(len(between))] + "\n"
			at = len(s)
			s += part[start:]
			for i := range x.Nodes {
				x.Nodes[i].At += at - start
			}
			want, _ = parse.Join(want, x)
		}
		s += "\n" + between[r.Intn(len(between))]
		if _, _, e := lex.Read(s); e != api.OK {
			continue
		}
		if y, _, at, e := parse.Recover(s); !equal(y, want) || at != 0 || e != api.OK {
			t.Fatalf("%q\n%s\n%s\n%d %v", s, toldTree(y), toldTree(want), at, e)
		}
	}
}
