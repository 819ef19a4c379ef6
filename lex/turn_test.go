package lex_test

import (
	"math/rand"
	"slices"
	"strings"
	"testing"

	"floodgate/api"
	"floodgate/lex"
)

// P1.8: tokens that are replaced.
func TestTurn(t *testing.T) {
	for i, x := range []struct {
		s, from, to, text string
		many              int
	}{
		{"a + a + b", "a +", "c -", "c-c-b", 2}, {"a a a", "a a", "b", "b a", 1}, {"a a a a", "a a", "a", "a a", 2}, {"a", "a", "a a", "a a", 1}, {"a b a", "a", "", "b", 2}, {"a ~ a\n", "a", "", "", 1},
		{"", "a", "b", "", 0}, {"a b", "c", "a", "a b", 0}, {"a", "a a", "b", "a", 0}, {"a a b", "a b", "c", "a c", 1}, {"a b", "a b", "b a", "b a", 1}, {"if iff", "if", "1", "1iff", 1}, {"-> - >", "- >", "->", "->->", 1}, {": x =", "x", "", ": =", 1}, {"12 1", "1", "2", "12 2", 1},
	} {
		if text, many, e := lex.Turn(x.s, guess(x.from), guess(x.to)); text != x.text || many != x.many || e != api.OK {
			t.Errorf("%d %q %d %v", i, text, many, e)
		}
	}
	// Places of tokens do not count, kinds and texts do.
	from := []api.Lexeme{at(api.NameToken, "b", 99)}
	to := []api.Lexeme{at(api.NumberToken, "1", -1)}
	if text, many, e := lex.Turn("a b", from, to); text != "a 1" || many != 1 || e != api.OK {
		t.Error(text, many, e)
	}
}

// P1.8: the errors of Turn, in their order.
func TestTurnErrors(t *testing.T) {
	wrong := []api.Lexeme{sign("!")}
	many := slices.Repeat([]api.Lexeme{sign("(")}, 901)
	long := slices.Repeat([]api.Lexeme{name("abcdefghijkl")}, 193)
	a := guess("a")
	for i, x := range []struct {
		s        string
		from, to []api.Lexeme
		e        api.Errno
	}{
		{"a !", nil, many, api.ErrForm}, {strings.Repeat("(", 901), nil, wrong, api.ErrLimit}, {strings.Repeat(" ", 2501), nil, wrong, api.ErrLimit},
		{"a", nil, a, api.ErrArg}, {"a", []api.Lexeme{}, wrong, api.ErrArg}, {"a", nil, many, api.ErrArg},
		{"a", wrong, a, api.ErrForm}, {"a", wrong, many, api.ErrForm}, {"a", many, wrong, api.ErrLimit}, {"a", long, wrong, api.ErrLimit}, {"", wrong, a, api.ErrForm}, {"a", []api.Lexeme{word("a")}, a, api.ErrForm},
		{"a", a, wrong, api.ErrForm}, {"b", a, wrong, api.ErrForm}, {"b", a, many, api.ErrLimit}, {"b", a, long, api.ErrLimit},
		{strings.Repeat("a", 1), a, many[:900], api.OK}, {"a b", a, many[:900], api.ErrLimit}, {"a b", a, many[:899], api.OK}, {strings.Repeat("a ", 451), a, guess("( ("), api.ErrLimit}, {strings.Repeat("a ", 450), a, guess("( ("), api.OK}, {strings.Repeat("a ", 900), a, guess("ab"), api.ErrLimit}, {strings.Repeat("a ", 900), a, many[:900], api.ErrLimit}, {strings.Repeat("a ", 900), a, long[:192], api.ErrLimit},
		{strings.Repeat("a ", 192) + "::==(", a, long[:1], api.OK}, {strings.Repeat("a ", 192) + "::==->", a, long[:1], api.ErrLimit},
	} {
		text, n, e := lex.Turn(x.s, x.from, x.to)
		if e != x.e || e != api.OK && (text != "" || n != 0) {
			t.Errorf("%d %q %d %v", i, text, n, e)
		}
	}
}

// P1.13: what was turned is turned back.
func TestTurnedBack(t *testing.T) {
	r := rand.New(rand.NewSource(13))
	news := [][]api.Lexeme{guess("fresh"), guess("fresh = 77"), guess("77 fresh"), guess("fresh :: fresh2")}
	turned := 0
	for _, s := range goodTexts(13, 300, 40) {
		l, _, _ := lex.Read(s)
		if len(l) == 0 {
			continue
		}
		i := r.Intn(len(l))
		from := l[i : i+1+r.Intn(min(2, len(l)-i))]
		to := news[r.Intn(len(news))]
		text, many, e := lex.Turn(s, from, to)
		back, again, f := lex.Turn(text, to, from)
		bare, _, _ := lex.Bare(s)
		if back != bare || many != again || many == 0 || e != api.OK || f != api.OK {
			t.Fatalf("%q %v %v %q %q %d %d", s, from, to, text, back, many, again)
		}
		turned += many
	}
	if turned < 200 {
		t.Error("too little was turned", turned)
	}
}
