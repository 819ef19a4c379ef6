package lex_test

import (
	"math"
	"math/rand"
	"slices"
	"strings"
	"testing"

	"floodgate/api"
	"floodgate/lex"
)

// P1.3: the tokens of texts.
func TestRead(t *testing.T) {
	for i, x := range []struct {
		s string
		l []api.Lexeme
	}{
		{"", nil}, {" ", nil}, {"\n~ a ! 007\n ", nil}, {"~", nil},
		{"a1 = 2..b ~ so", []api.Lexeme{at(api.NameToken, "a1", 0), at(api.SignToken, "=", 3), at(api.NumberToken, "2", 5), at(api.SignToken, "..", 6), at(api.NameToken, "b", 8)}},
		{"12ab", []api.Lexeme{at(api.NumberToken, "12", 0), at(api.NameToken, "ab", 2)}},
		{"x:==1", []api.Lexeme{at(api.NameToken, "x", 0), at(api.SignToken, ":=", 1), at(api.SignToken, "=", 3), at(api.NumberToken, "1", 4)}},
		{"abcdefghijkl", []api.Lexeme{at(api.NameToken, "abcdefghijkl", 0)}}, {"a23456789012", []api.Lexeme{at(api.NameToken, "a23456789012", 0)}},
		{"0", []api.Lexeme{at(api.NumberToken, "0", 0)}}, {"1000000000", []api.Lexeme{at(api.NumberToken, "1000000000", 0)}}, {"999999999a", []api.Lexeme{at(api.NumberToken, "999999999", 0), at(api.NameToken, "a", 9)}},
		{"a~b", []api.Lexeme{at(api.NameToken, "a", 0)}}, {"a~b\nc", []api.Lexeme{at(api.NameToken, "a", 0), at(api.NameToken, "c", 4)}}, {"a ~~ b\n\n~\n c~", []api.Lexeme{at(api.NameToken, "a", 0), at(api.NameToken, "c", 11)}},
		{"in int int1 1in", []api.Lexeme{at(api.WordToken, "in", 0), at(api.WordToken, "int", 3), at(api.NameToken, "int1", 7), at(api.NumberToken, "1", 12), at(api.WordToken, "in", 13)}},
		{":::=::=", []api.Lexeme{at(api.SignToken, "::", 0), at(api.SignToken, ":=", 2), at(api.SignToken, "::", 4), at(api.SignToken, "=", 6)}},
		{"<=>=<>==!=->-", []api.Lexeme{at(api.SignToken, "<=", 0), at(api.SignToken, ">=", 2), at(api.SignToken, "<", 4), at(api.SignToken, ">=", 5), at(api.SignToken, "=", 7), at(api.SignToken, "!=", 8), at(api.SignToken, "->", 10), at(api.SignToken, "-", 12)}},
	} {
		if l, place, e := lex.Read(x.s); !slices.Equal(l, x.l) || place != 0 || e != api.OK {
			t.Error(i, l, place, e)
		}
	}
	for _, s := range append(api.Keywords(), api.Signs()...) {
		if l, _, e := lex.Read(s); !slices.Equal(l, guess(s)) || e != api.OK {
			t.Error(s, l, e)
		}
	}
}

// P1.3: what begins no token, and the limit of tokens.
func TestReadErrors(t *testing.T) {
	many := strings.Repeat("a ", 900)
	for i, x := range []struct {
		s  string
		at int
		e  api.Errno
	}{
		{many, 0, api.OK}, {many + "~ more", 0, api.OK}, {many[:1799] + "(", 1799, api.ErrLimit}, {many + "a", 1800, api.ErrLimit}, {many + "  \n 1 !", 1804, api.ErrLimit},
		{many + "!", 1800, api.ErrForm}, {many + "07", 1800, api.ErrForm}, {many + "abcdefghijklm", 1800, api.ErrForm}, {"? " + many, 0, api.ErrForm}, {many + "\x01", 1800, api.ErrForm}, {many + "a \x01", 1802, api.ErrForm},
		{"a = 007", 4, api.ErrForm}, {"00", 0, api.ErrForm}, {"x01 01", 4, api.ErrForm}, {"a ! b", 2, api.ErrForm}, {"a?", 1, api.ErrForm}, {"a . b", 2, api.ErrForm}, {"...", 2, api.ErrForm}, {"a_b", 1, api.ErrForm}, {"(A)", 1, api.ErrForm}, {"!", 0, api.ErrForm}, {"a !~", 2, api.ErrForm},
		{"1000000001", 0, api.ErrForm}, {"1 10000000000", 2, api.ErrForm}, {strings.Repeat("9", 2500), 0, api.ErrForm}, {"9223372036854775808", 0, api.ErrForm}, {"18446744073709551617", 0, api.ErrForm},
		{"abcdefghijklm", 0, api.ErrForm}, {"b\na234567890123", 2, api.ErrForm}, {"? \t", 2, api.ErrForm},
	} {
		l, place, e := lex.Read(x.s)
		if place != x.at || e != x.e || e != api.OK && len(l) != 0 {
			t.Error(i, len(l), place, e)
		}
	}
}

// P1.3, P1.4: random texts are read as another reader does it.
func TestReadRandom(t *testing.T) {
	r := rand.New(rand.NewSource(3))
	for range 3000 {
		s := randomText(r, 40)
		l, gaps, place, e := readAgain(s)
		l1, at1, e1 := lex.Read(s)
		l2, at2, e2 := lex.Gaps(s)
		if !slices.Equal(l, l1) || !slices.Equal(gaps, l2) || place != at1 || place != at2 || e != e1 || e != e2 {
			t.Fatalf("%q %v %v %d %v", s, l1, l2, at1, e1)
		}
	}
}

// P1.4: gaps.
func TestGaps(t *testing.T) {
	for i, x := range []struct {
		s string
		l []api.Stretch
	}{
		{"", nil}, {"a(1)", nil}, {"a1 = 2..b ~ so", []api.Stretch{{From: 2, To: 3}, {From: 4, To: 5}, {From: 9, To: 14}}},
		{" ~ x\n ~ y\n\n ", []api.Stretch{{From: 0, To: 12}}}, {"~", []api.Stretch{{From: 0, To: 1}}}, {"a~\nb", []api.Stretch{{From: 1, To: 3}}}, {"\na b\n", []api.Stretch{{From: 0, To: 1}, {From: 2, To: 3}, {From: 4, To: 5}}},
	} {
		if l, place, e := lex.Gaps(x.s); !slices.Equal(l, x.l) || place != 0 || e != api.OK {
			t.Error(i, l, place, e)
		}
	}
	for i, x := range []struct {
		s  string
		at int
		e  api.Errno
	}{{" a 01", 3, api.ErrForm}, {strings.Repeat(" a", 901), 1801, api.ErrLimit}, {strings.Repeat(" a", 900) + " .", 1801, api.ErrForm}} {
		if l, place, e := lex.Gaps(x.s); len(l) != 0 || place != x.at || e != x.e {
			t.Error(i, l, place, e)
		}
	}
}

// P1.4: the token that has a byte.
func TestToken(t *testing.T) {
	const s = " ab->12 ~x\n)"
	for place, want := range []int{-1, 0, 0, 1, 1, 2, 2, -1, -1, -1, -1, 3} {
		n, e := lex.Token(s, place)
		if want < 0 && (n != 0 || e != api.ErrNone) || want >= 0 && (n != want || e != api.OK) {
			t.Error(place, n, e)
		}
	}
	for _, place := range []int{-1, 12, math.MinInt, math.MaxInt} {
		if n, e := lex.Token(s, place); n != 0 || e != api.ErrRange {
			t.Error(place, n, e)
		}
	}
	if n, e := lex.Token("", 0); n != 0 || e != api.ErrRange {
		t.Error(n, e)
	}
	// The errors of Read come before those of the place.
	for s, want := range map[string]api.Errno{"a !": api.ErrForm, strings.Repeat("a ", 901): api.ErrLimit, "\t": api.ErrForm} {
		for _, place := range []int{-1, 0, 1, 5000} {
			if n, e := lex.Token(s, place); n != 0 || e != want {
				t.Error(place, n, e)
			}
		}
	}
}

// P1.10: more gaps change no token but for its place.
func TestMoreGaps(t *testing.T) {
	r := rand.New(rand.NewSource(10))
	for _, s := range goodTexts(10, 200, 40) {
		l, _, _ := lex.Read(s)
		gaps, _, _ := lex.Gaps(s)
		edges := []int{0, len(s)}
		for _, x := range l {
			edges = append(edges, x.At, x.At+len(x.Text))
		}
		for _, x := range gaps {
			edges = append(edges, x.From, x.To)
		}
		for _, gap := range []string{" ", "\n", " \n ", "~ 007 ! def\n", " ~\n~\n "} {
			k := edges[r.Intn(len(edges))]
			more, place, e := lex.Read(s[:k] + gap + s[k:])
			if !slices.Equal(bareLexemes(more), bareLexemes(l)) || place != 0 || e != api.OK {
				t.Fatalf("%q %d %q %v %v", s, k, gap, more, e)
			}
		}
		more, _, e := lex.Read(strings.TrimRight(s, "~") + "\n~ the end")
		if !slices.Equal(bareLexemes(more), bareLexemes(l)) || e != api.OK {
			t.Fatalf("%q %v %v", s, more, e)
		}
	}
}

// P1.11: each byte is in one token or in one gap, and between two gaps there is a token.
func TestAllOfTheText(t *testing.T) {
	for _, s := range append(goodTexts(11, 200, 60), "", " ", "a", "~a") {
		l, _, _ := lex.Read(s)
		gaps, _, _ := lex.Gaps(s)
		for place := 0; place < len(s); {
			if len(gaps) > 0 && gaps[0].From == place {
				place = gaps[0].To
				gaps = gaps[1:]
				if len(gaps) > 0 && gaps[0].From == place {
					t.Fatalf("%q two gaps without a token at %d", s, place)
				}
				continue
			}
			if len(l) == 0 || l[0].At != place || !strings.HasPrefix(s[place:], l[0].Text) {
				t.Fatalf("%q nothing at %d", s, place)
			}
			place += len(l[0].Text)
			l = l[1:]
		}
		if len(l) != 0 || len(gaps) != 0 {
			t.Fatalf("%q %v %v", s, l, gaps)
		}
	}
}
