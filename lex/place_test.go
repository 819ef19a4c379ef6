package lex_test

import (
	"math"
	"slices"
	"strings"
	"testing"

	"floodgate/api"
	"floodgate/lex"
)

// P1.1: which texts are right, and the error of each function with a string.
func TestCheck(t *testing.T) {
	for i, x := range []struct {
		s  string
		at int
		e  api.Errno
	}{
		{"", 0, api.OK}, {"\n", 0, api.OK}, {" !\"?@AZ^_`|~", 0, api.OK},
		{strings.Repeat("a ", 1250), 0, api.OK}, {strings.Repeat(" ", 2500), 0, api.OK},
		{strings.Repeat(" ", 2501), 0, api.ErrLimit}, {strings.Repeat("\t", 2501), 0, api.ErrLimit},
		{"\t", 0, api.ErrForm}, {"a\x1f", 1, api.ErrForm}, {"ab\x7f", 2, api.ErrForm}, {"\n\r\n", 1, api.ErrForm}, {"~ \x00", 2, api.ErrForm},
		{"abc\u00e4", 3, api.ErrForm}, {"\xff\t", 0, api.ErrForm}, {strings.Repeat(" ", 2499) + "\t", 2499, api.ErrForm}, {"! \t", 2, api.ErrForm},
	} {
		place, e := lex.Check(x.s)
		if place != x.at || e != x.e {
			t.Error(i, place, e)
		}
		if e == api.OK {
			continue
		}
		// The numbers and tokens are wrong as well: the text's error comes first (R1).
		wrong := []api.Lexeme{sign("!")}
		l, a1, e1 := lex.Read(x.s)
		g, a2, e2 := lex.Gaps(x.s)
		b, a3, e3 := lex.Bare(x.s)
		lines, e4 := lex.Lines(x.s)
		line, column, e5 := lex.Place(x.s, -1)
		offset, e6 := lex.Offset(x.s, -1, -1)
		n, e7 := lex.Token(x.s, -1)
		text, many, e8 := lex.Turn(x.s, nil, wrong)
		for k, f := range []api.Errno{e1, e2, e3, e4, e5, e6, e7, e8} {
			if f != x.e {
				t.Error(i, k, f)
			}
		}
		if a1 != x.at || a2 != x.at || a3 != x.at {
			t.Error(i, a1, a2, a3)
		}
		if len(l)+len(g)+len(b)+len(lines)+line+column+offset+n+len(text)+many != 0 {
			t.Error(i, "something was told together with an error")
		}
	}
}

// P1.2: lines.
func TestLines(t *testing.T) {
	for s, want := range map[string][]string{
		"": {""}, "\n": {"", ""}, "a": {"a"}, "a\n": {"a", ""}, "\na\n\n b": {"", "a", "", " b"}, "a ~ b\nc": {"a ~ b", "c"},
	} {
		if l, e := lex.Lines(s); !slices.Equal(l, want) || e != api.OK {
			t.Errorf("%q %q %v", s, l, e)
		}
	}
}

// P1.2: a place's line and column, and back.
func TestPlaceAndOffset(t *testing.T) {
	const s = "ab\n\nc"
	for place, want := range [][2]int{{1, 1}, {1, 2}, {1, 3}, {2, 1}, {3, 1}, {3, 2}} {
		if line, column, e := lex.Place(s, place); line != want[0] || column != want[1] || e != api.OK {
			t.Error(place, line, column, e)
		}
		if back, e := lex.Offset(s, want[0], want[1]); back != place || e != api.OK {
			t.Error(want, back, e)
		}
	}
	if line, column, e := lex.Place("", 0); line != 1 || column != 1 || e != api.OK {
		t.Error(line, column, e)
	}
	for _, place := range []int{-1, 6, 7, math.MinInt, math.MaxInt} {
		if line, column, e := lex.Place(s, place); line != 0 || column != 0 || e != api.ErrRange {
			t.Error(place, line, column, e)
		}
	}
	for _, x := range [][2]int{{0, 1}, {-1, 1}, {4, 1}, {1, 0}, {1, 4}, {2, 2}, {3, 3}, {3, -1}, {math.MaxInt, 1}, {1, math.MaxInt}, {math.MinInt, math.MinInt}} {
		if place, e := lex.Offset(s, x[0], x[1]); place != 0 || e != api.ErrRange {
			t.Error(x, place, e)
		}
	}
}

// P1.12: Offset and Place undo each other, and the lines are the text.
func TestPlacesUndone(t *testing.T) {
	for _, s := range append(goodTexts(12, 100, 60), "", "\n", "\n\n", "?!\n.\n", strings.Repeat("\n", 2500)) {
		lines, e := lex.Lines(s)
		if strings.Join(lines, "\n") != s || len(lines) != strings.Count(s, "\n")+1 || e != api.OK {
			t.Fatalf("%q %q", s, lines)
		}
		places := 0
		for i, x := range lines {
			for column := range len(x) + 1 {
				place, e := lex.Offset(s, i+1, column+1)
				if e != api.OK || place != places {
					t.Fatalf("%q %d %d", s, place, places)
				}
				line, back, e := lex.Place(s, place)
				if line != i+1 || back != column+1 || e != api.OK {
					t.Fatalf("%q %d %d %d", s, place, line, back)
				}
				places++
			}
		}
		if places != len(s)+1 {
			t.Fatalf("%q %d", s, places)
		}
	}
}
