package lex_test

import (
	"slices"
	"strings"
	"testing"

	"floodgate/api"
	"floodgate/lex"
)

// P1.5: the kinds of texts.
func TestKind(t *testing.T) {
	for s, want := range map[string]uint8{
		"a": api.NameToken, "iff": api.NameToken, "int1": api.NameToken, "abcdefghijkl": api.NameToken, "0": api.NumberToken, "10": api.NumberToken, "1000000000": api.NumberToken,
		"": 0, " ": 0, "a ": 0, " a": 0, "a b": 0, "a~": 0, "a\n": 0, "~": 0, ".": 0, "!": 0, ":::": 0, "1a": 0, "00": 0, "01": 0, "-1": 0, "+1": 0, "1000000001": 0, "abcdefghijklm": 0, "A": 0, "aB": 0, "a\x00": 0, "\xff": 0, "\u00e4": 0,
	} {
		k, e := lex.Kind(s)
		if k != want || (e == api.OK) != (want != 0) || want == 0 && e != api.ErrForm {
			t.Errorf("%q %d %v", s, k, e)
		}
	}
	for _, s := range api.Keywords() {
		if k, e := lex.Kind(s); k != api.WordToken || e != api.OK {
			t.Error(s, k, e)
		}
	}
	for _, s := range api.Signs() {
		if k, e := lex.Kind(s); k != api.SignToken || e != api.OK {
			t.Error(s, k, e)
		}
	}
	if k, e := lex.Kind(strings.Repeat("1", 100000)); k != 0 || e != api.ErrForm {
		t.Error(k, e)
	}
}

// P1.6: which tokens need a gap.
func TestApart(t *testing.T) {
	for i, x := range []struct {
		a, b  string
		apart bool
	}{
		{"a", "b", true}, {"1", "a", false}, {"a", "1", true}, {"=", "=", true}, {"-", ">", true}, {":", "=", true}, {":", ":", true}, {":", ":=", true}, {"::", "=", false}, {"<", "=", true}, {"<", "==", true}, {"<=", "=", false}, {"!=", "=", false}, {"..", "..", false}, {"->", ">", false}, {">", "-", false},
		{"1", "2", true}, {"0", "7", true}, {"0", "0", true}, {"1000000000", "0", true}, {"1", "if", false}, {"if", "1", true}, {"in", "t", true}, {"i", "n", true}, {"do", "do", true}, {"abcdefghijkl", "m", true}, {"abcdefghijkl", "abcdefghijkl", true}, {"a", "(", false}, {"-", "1", false}, {"1", "..", false}, {"..", "1", false}, {"}", "else", false},
	} {
		a, b := guess(x.a)[0], guess(x.b)[0]
		b.At = -7
		if apart, e := lex.Apart(a, b); apart != x.apart || e != api.OK {
			t.Error(i, x.a, x.b, apart, e)
		}
	}
	good := name("a")
	for i, x := range []api.Lexeme{sign("."), name(""), {}, at(0, "a", 0), at(5, "a", 0), at(255, "a", 0), name("if"), word("a"), number("a"), sign("1"), number("01"), number("1000000001"), name("abcdefghijklm"), name("a b"), sign(" ="), sign(":::"), name("A"), name("\xff")} {
		for _, y := range [][2]api.Lexeme{{x, good}, {good, x}, {x, x}} {
			if apart, e := lex.Apart(y[0], y[1]); apart || e != api.ErrForm {
				t.Error(i, y, apart, e)
			}
		}
	}
}

// P1.6: whether a gap is needed is what reading says.
func TestApartOfAll(t *testing.T) {
	words := append(append(api.Keywords(), api.Signs()...), "a", "abcdefghijkl", "x1", "0", "1", "1000000000")
	for _, a := range words {
		for _, b := range words {
			want := append(guess(a), guess(b)...)
			l, _, e := lex.Read(a + b)
			read := slices.Equal(bareLexemes(l), want) && e == api.OK
			if apart, e := lex.Apart(want[0], want[1]); apart == read || e != api.OK {
				t.Error(a, b, apart, e)
			}
		}
	}
}

// P1.7: the bare text of tokens.
func TestText(t *testing.T) {
	for s, want := range map[string]string{
		"": "", "a": "a", "def f ( ) -> int { give 1 }": "def f()->int{give 1}", "a - - > 1 do 2": "a-- >1do 2", ": : = := = =": ": : =:== =", "if if x1 0 0": "if if x1 0 0", "1 .. # - 1": "1..#-1",
	} {
		if text, e := lex.Text(guess(s)); text != want || e != api.OK {
			t.Errorf("%q %q %v", s, text, e)
		}
	}
	long := name("abcdefghijkl")
	for i, x := range []struct {
		l    []api.Lexeme
		size int
		e    api.Errno
	}{
		{slices.Repeat([]api.Lexeme{sign("(")}, 900), 900, api.OK}, {slices.Repeat([]api.Lexeme{sign("(")}, 901), 0, api.ErrLimit}, {slices.Repeat([]api.Lexeme{sign("!")}, 901), 0, api.ErrLimit},
		{append(slices.Repeat([]api.Lexeme{long}, 192), sign("::"), sign("=="), sign("(")), 2500, api.OK}, {append(slices.Repeat([]api.Lexeme{long}, 192), sign("::"), sign("=="), sign("->")), 0, api.ErrLimit},
		{append(slices.Repeat([]api.Lexeme{long}, 300), sign("!")), 0, api.ErrForm}, {[]api.Lexeme{long, at(0, "a", 0)}, 0, api.ErrForm}, {[]api.Lexeme{name("if")}, 0, api.ErrForm}, {[]api.Lexeme{{}}, 0, api.ErrForm},
	} {
		if text, e := lex.Text(x.l); len(text) != x.size || e != x.e {
			t.Error(i, len(text), e)
		}
	}
}

// P1.7: the bare text of a text.
func TestBare(t *testing.T) {
	for s, want := range map[string]string{
		"": "", " \n~ so": "", "def  f ( ) -> int { give 1 }": "def f()->int{give 1}", "a ~ b\nb": "a b", "- ~\n>": "- >", "1 a": "1a",
	} {
		if text, place, e := lex.Bare(s); text != want || place != 0 || e != api.OK {
			t.Errorf("%q %q %d %v", s, text, place, e)
		}
	}
	for s, want := range map[string]int{"a 01": 2, "a\n\n!": 3, "a \x00": 2} {
		if text, place, e := lex.Bare(s); text != "" || place != want || e != api.ErrForm {
			t.Errorf("%q %q %d %v", s, text, place, e)
		}
	}
	if text, place, e := lex.Bare(strings.Repeat("(", 901)); text != "" || place != 900 || e != api.ErrLimit {
		t.Error(text, place, e)
	}
}

// P1.9: bare texts are read back, are their own bare texts, and cannot be shorter.
func TestReadBack(t *testing.T) {
	for _, s := range goodTexts(9, 300, 50) {
		l, _, _ := lex.Read(s)
		text, e := lex.Text(l)
		bare, place, f := lex.Bare(s)
		if bare != text || place != 0 || e != api.OK || f != api.OK || len(bare) > len(s) {
			t.Fatalf("%q %q %q %v %v", s, text, bare, e, f)
		}
		back, _, e := lex.Read(bare)
		if !slices.Equal(bareLexemes(back), bareLexemes(l)) || e != api.OK {
			t.Fatalf("%q %q", s, bare)
		}
		if again, _, _ := lex.Bare(bare); again != bare {
			t.Fatalf("%q %q", bare, again)
		}
		for i := range len(bare) {
			less, _, e := lex.Read(bare[:i] + bare[i+1:])
			if bare[i] == ' ' && e == api.OK && slices.Equal(bareLexemes(less), bareLexemes(l)) {
				t.Fatalf("%q needs no gap at %d", bare, i)
			}
		}
	}
}
