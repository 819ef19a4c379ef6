package lex_test

import (
	"fmt"
	"math/rand"
	"slices"
	"strings"
	"testing"

	"floodgate/api"
	"floodgate/lex"
)

// anyLexeme is a token that is right, or nearly so, or not at all.
func anyLexeme(r *rand.Rand) api.Lexeme {
	texts := append(append(api.Keywords(), api.Signs()...), "a", "x1", "0", "12", "", "!", "01", "abcdefghijklm", "a b", "\xff\x00", strings.Repeat("1", 50))
	text := texts[r.Intn(len(texts))]
	kind, _ := lex.Kind(text)
	if r.Intn(20) == 0 {
		kind = uint8(r.Intn(256))
	}
	return api.Lexeme{Kind: kind, Text: text, At: int(r.Uint64())}
}

// anyText is a text, or a string of any bytes.
func anyText(r *rand.Rand) string {
	if r.Intn(3) > 0 {
		return randomText(r, 30)
	}
	b := make([]byte, r.Intn(40))
	r.Read(b)
	return string(b)
}

// called tells what all functions answer.
func called(s, text string, place, line, column int, from, to []api.Lexeme) string {
	var l []any
	put := func(x ...any) { l = append(l, x...) }
	a, e := lex.Check(s)
	put(a, e)
	lines, e := lex.Lines(s)
	put(lines, e)
	n, m, e := lex.Place(s, place)
	put(n, m, e)
	n, e = lex.Offset(s, line, column)
	put(n, e)
	tokens, n, e := lex.Read(s)
	put(tokens, n, e)
	gaps, n, e := lex.Gaps(s)
	put(gaps, n, e)
	n, e = lex.Token(s, place)
	put(n, e)
	k, e := lex.Kind(text)
	put(k, e)
	for _, x := range from {
		for _, y := range to {
			apart, e := lex.Apart(x, y)
			put(apart, e)
		}
	}
	b, e := lex.Text(from)
	put(b, e)
	b, n, e = lex.Bare(s)
	put(b, n, e)
	b, n, e = lex.Turn(s, from, to)
	put(b, n, e)
	return fmt.Sprintf("%#v", l)
}

// P1, P2, R4, R8: for any arguments there is an answer, it is the same again, and no argument is changed, nor what lies behind the end of a list.
func TestAnyArguments(t *testing.T) {
	r := rand.New(rand.NewSource(1))
	for range 2000 {
		s, text := anyText(r), anyText(r)
		place, line, column := r.Intn(60)-5, r.Intn(6)-1, r.Intn(20)-2
		room := make([]api.Lexeme, 8)
		for i := range room {
			room[i] = anyLexeme(r)
		}
		before := slices.Clone(room)
		from, to := room[:r.Intn(4)], room[4:4+r.Intn(4)]
		first := called(s, text, place, line, column, from, to)
		if !slices.Equal(room, before) {
			t.Fatalf("%q changed %v to %v", s, before, room)
		}
		if again := called(s, text, place, line, column, from, to); again != first {
			t.Fatalf("%q %s %s", s, first, again)
		}
	}
}

// R4: Turn writes into no spare room, where tokens are put in and where all are.
func TestSpareRoom(t *testing.T) {
	room := guess("a + b c d e")
	before := slices.Clone(room)
	if text, many, e := lex.Turn("a + a + b", room[:2], room[3:4]); text != "c c b" || many != 2 || e != api.OK {
		t.Error(text, many, e)
	}
	if text, e := lex.Text(room[:2]); text != "a+" || e != api.OK {
		t.Error(text, e)
	}
	if !slices.Equal(room, before) {
		t.Error(room)
	}
}

// R4: results share no memory, neither with each other nor with a later result.
func TestNewMemory(t *testing.T) {
	const s = "a b\nc"
	l, _, _ := lex.Read(s)
	lines, _ := lex.Lines(s)
	gaps, _, _ := lex.Gaps(s)
	l[0], lines[0], gaps[0] = api.Lexeme{}, "", api.Stretch{}
	l2, _, _ := lex.Read(s)
	lines2, _ := lex.Lines(s)
	gaps2, _, _ := lex.Gaps(s)
	if l2[0] != name("a") || lines2[0] != "a b" || gaps2[0] != (api.Stretch{From: 1, To: 2}) {
		t.Error(l2, lines2, gaps2)
	}
}

// R3: a nil list and an empty one are the same.
func TestNilAndEmpty(t *testing.T) {
	for _, l := range [][]api.Lexeme{nil, {}} {
		text, e := lex.Text(l)
		turned, many, f := lex.Turn("a b", guess("a"), l)
		_, _, g := lex.Turn("a b", l, guess("a"))
		if text != "" || e != api.OK || turned != "b" || many != 1 || f != api.OK || g != api.ErrArg {
			t.Error(text, e, turned, many, f, g)
		}
	}
}
