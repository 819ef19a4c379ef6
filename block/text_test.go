package block_test

import (
	"fmt"
	"math/rand"
	"strings"
	"testing"

	"floodgate/api"
	"floodgate/block"
)

// P8.7: the texts of programs with each Op, with outputs above 0, with blocks without Nexts, nodes or Exits.
func TestText(t *testing.T) {
	for _, s := range samples() {
		l := right(t, s)
		if got, e := block.Text(l); got != s || e != api.OK {
			t.Errorf("%v\n%s\n%s", e, got, s)
		}
		if got, e := block.Parse(s); shown(got) != shown(l) || e != api.OK {
			t.Errorf("%v\n%v\n%s", e, got, s)
		}
	}
}

// P8.7: what Parse makes, field by field.
func TestParse(t *testing.T) {
	l, e := block.Parse(power)
	want := []api.Block{
		{Name: "main", Params: 2, Nodes: []api.Node{
			{Op: api.NInt, Ins: []api.From{{Node: -1}}},
			{Op: api.NFetch, Ins: []api.From{{Node: -1, Out: 1}, {}}},
			{Op: api.NInt, N: 1, Ins: []api.From{{Node: -1}}},
			{Op: api.NLoop, Name: "main.0", Ins: []api.From{{Node: -1}, {Node: 1}, {Node: 2}}},
		}, Exits: []api.From{{Node: 3}}},
		{Name: "main.0", Params: 3, Nodes: []api.Node{
			{Op: api.NInt, Ins: []api.From{{Node: -1}}},
			{Op: api.NPrim, Name: "lt", Ins: []api.From{{}, {Node: -1, Out: 1}}},
			{Op: api.NSwitch, Ins: []api.From{{Node: 1}, {Node: -1}}},
			{Op: api.NSwitch, Ins: []api.From{{Node: 1}, {Node: -1, Out: 1}}},
			{Op: api.NSwitch, Ins: []api.From{{Node: 1}, {Node: -1, Out: 2}}},
			{Op: api.NInt, N: 1, Ins: []api.From{{Node: 2}}},
			{Op: api.NPrim, Name: "sub", Ins: []api.From{{Node: 3}, {Node: 5}}},
			{Op: api.NPrim, Name: "add", Ins: []api.From{{Node: 4}, {Node: 4}}},
		}, Nexts: []api.From{{Node: 2}, {Node: 6}, {Node: 7}}, Exits: []api.From{{Node: 4, Out: 1}}},
	}
	if e != api.OK || shown(l) != shown(want) {
		t.Errorf("%v %v", l, e)
	}
	l, e = block.Parse("block main 1\n  n0 = bool true p0\n  n1 = bool false p0\n  n2 = int -12 p0\n  exit\n")
	if e != api.OK || l[0].Nodes[0].N != 1 || l[0].Nodes[1].N != 0 || l[0].Nodes[2].N != -12 {
		t.Errorf("%v %v", l, e)
	}
}

// P8.7, R7: the texts of the greatest programs.
func TestTextLimits(t *testing.T) {
	var s strings.Builder
	s.WriteString("block main 12\n")
	for i := range api.MaxGraph {
		fmt.Fprintf(&s, "  n%d = int %d p11\n", i, []int{api.MaxNumber, -api.MaxNumber}[i%2])
	}
	s.WriteString("  exit" + strings.Repeat(" n399", 12) + "\n")
	for i := range api.MaxBlocks - 1 {
		fmt.Fprintf(&s, "block f.%022d 12\n  next%s\n  exit%s\n", i, strings.Repeat(" p11", 12), strings.Repeat(" p0", 12))
	}
	l, e := block.Parse(s.String())
	if e != api.OK || len(l) != 60 || len(l[0].Nodes) != 400 || l[0].Nodes[399].N != -api.MaxNumber || len(l[59].Nexts) != 12 {
		t.Fatal(len(l), e)
	}
	if got, e := block.Text(l); got != s.String() || e != api.OK {
		t.Error(e)
	}
	more := []string{s.String() + "block x 1\n  exit\n", strings.Replace(s.String(), "  exit", "  n400 = nil p0\n  exit", 1), strings.Replace(s.String(), "  exit n399", "  exit n399 p0", 1), strings.Replace(s.String(), "f.0", "f.00", 1)}
	for i, s := range more {
		if l, e := block.Parse(s); len(l) != 0 || e != api.ErrForm {
			t.Error(i, len(l), e)
		}
	}
}

// P8.7: texts that are none.
func TestParseNone(t *testing.T) {
	const one = "block main 1\n  n0 = nil p0\n  exit n0\n"
	right(t, one)
	for _, x := range []struct{ old, now string }{
		{one, ""}, {one, "\n"}, {one, " "}, {one, "x"}, {one, "block"}, {one, "block\n"}, {one, "  exit\n"}, {one, "exit"}, {one, "  n0 = nil p0\n"}, {one, "  next p0\n"},
		{"block main 1\n", ""}, {"  exit n0\n", ""}, {"n0\n", "n0"}, {"n0\n", "n0\n\n"}, {"n0\n", "n0\r\n"}, {"n0\n", "n0 \n"}, {"n0\n", "n0 "}, {"block", "\nblock"}, {"block", " block"}, {"block", "Block"}, {"block", "blocks"}, {"block ", "block  "}, {"block ", "block\t"}, {"block", "\ufeffblock"}, {"block", "\x00block"},
		{"main 1", "main  1"}, {"main 1", "main 1 "}, {"main 1", "main 1 1"}, {"main 1", "main 01"}, {"main 1", "main +1"}, {"main 1", "main -1"}, {"main 1", "main 0"}, {"main 1", "main 13"}, {"main 1", "main"}, {"main 1", "main p"}, {"main 1", "main x"}, {"main 1", "main 18446744073709551617"}, {"main 1", "main 1.0"}, {"main 1", "main 0x1"}, {"main 1", "main 1_0"}, {"main", "Main"}, {"main", "f"}, {"main", "m\u00e4in"}, {"main ", " "},
		{"  n0", " n0"}, {"  n0", "   n0"}, {"  n0", "\tn0"}, {"  n0", "n0"}, {"  n0", "  n1"}, {"  n0", "  0"}, {"  n0", "  n"}, {"  n0", "  n00"}, {"  n0", "  n+0"}, {"  n0", "  n-0"}, {"  n0", "  p0"}, {"  n0", "  n0.0"}, {"  n0", "  x"},
		{" = ", "="}, {" = ", " == "}, {" = ", "  = "}, {" = ", " =  "}, {" = ", " := "}, {" = ", " "}, {" = ", " - "},
		{"nil", "Nil"}, {"nil", "xor"}, {"nil", "null"}, {"nil", "ni"}, {"nil", ""}, {"nil", "nil nil"}, {"nil", "nil x"}, {"nil", "int"}, {"nil", "bool"}, {"nil", "prim"}, {"nil", "call"}, {"nil", "size p0"}, {"nil", "7"}, {"nil", "block"}, {"nil", "exit"}, {"nil", "next"},
		{"nil p0", "nil"}, {"nil p0", "nil "}, {"nil p0", "nil  p0"}, {"nil p0", "nil p0 p0"}, {"nil p0", "nil p1"}, {"nil p0", "nil p-1"}, {"nil p0", "nil p00"}, {"nil p0", "nil p+0"}, {"nil p0", "nil p"}, {"nil p0", "nil p0.0"}, {"nil p0", "nil P0"}, {"nil p0", "nil 0"}, {"nil p0", "nil n0"}, {"nil p0", "nil n-1"}, {"nil p0", "nil n-1.0"}, {"nil p0", "nil q0"}, {"nil p0", "nil p18446744073709551616"},
		{"  exit", " exit"}, {"  exit", "   exit"}, {"  exit", "exit"}, {"  exit", "  exits"}, {"  exit", "  Exit"}, {"  exit", "  exit  "}, {"  exit", "  next\n  exit"}, {"  exit", "  exit p0\n  exit"}, {"  exit", "  exit\n  exit"}, {"  exit", "\n  exit"}, {"  exit", "  \n  exit"}, {"  exit", "  next n0"}, {"  exit", "  next"},
		{"exit n0", "exit n0.0"}, {"exit n0", "exit n0.1"}, {"exit n0", "exit n0."}, {"exit n0", "exit n"}, {"exit n0", "exit n00"}, {"exit n0", "exit n1"}, {"exit n0", "exit n-1"}, {"exit n0", "exit n-1.0"}, {"exit n0", "exit n+0"}, {"exit n0", "exit 0"}, {"exit n0", "exit n0n0"}, {"exit n0", "exit n0.00"}, {"exit n0", "exit n0.-0"}, {"exit n0", "exit n0,p0"}, {"exit n0", "exit p0\n  n1 = nil p0"}, {"exit n0", "exit n18446744073709551616"}, {"exit n0", "exit n0\n  next p0"}, {"exit n0", "exit nn0"}, {"exit n0", "exit pn0"}, {"exit n0", "exit np0"},
		{one, one + one}, {one, one + "block main 2\n  exit\n"}, {one, one + "block\n"}, {one, one + "block f\n"}, {one, one + "block f 1\n"}, {one, one + "  exit\n"}, {one, one + "block f 1\n  exit\n\n"}, {one, one + "x"}, {one, one + "\x00"},
		{one, "block f 1\n  exit\n"}, {one, "block main 1\n  next p0\n  exit\n"}, {one, "block main 1\n  n0 = call f p0\n  exit\n"}, {one, "block main 2\n  next p0\n  exit\n"},
	} {
		s := strings.Replace(one, x.old, x.now, 1)
		if s == one {
			t.Fatalf("%q", x)
		}
		if l, e := block.Parse(s); len(l) != 0 || e != api.ErrForm {
			t.Errorf("%q: %v %v", s, l, e)
		}
	}
}

// P8.7, R9: the numbers and truths of nodes, and outputs above 0.
func TestParseNumbers(t *testing.T) {
	for word, is := range map[string]bool{
		"int 0": true, "int 1": true, "int -1": true, "int 10": true, "int 1000000000": true, "int -1000000000": true,
		"int -0": false, "int +0": false, "int +1": false, "int 00": false, "int 01": false, "int -01": false, "int 1000000001": false, "int -1000000001": false, "int 18446744073709551616": false, "int --1": false, "int - 1": false, "int 1.": false, "int 0x1": false, "int 1e3": false, "int 1_0": false, "int true": false, "int": false, "int \u0661": false,
		"bool true": true, "bool false": true, "bool 1": false, "bool 0": false, "bool True": false, "bool t": false, "bool": false, "bool truefalse": false,
		"nil": true, "isnil": true, "nil 0": false, "alloc": true, "prim neg": true, "prim add": false, "prim": false, "prim neg 0": false, "call two": true, "loop two": false, "call l": false, "loop l": true, "call main": true, "loop main": false, "call": false,
	} {
		s := "block main 1\n  n0 = call two p0\n  n1 = " + word + " p0\n  exit n0.1 n0\nblock two 1\n  exit p0 p0\nblock l 1\n  n0 = switch p0 p0\n  next n0\n  exit\n"
		l, e := block.Parse(s)
		if (e == api.OK) != is || (len(l) > 0) != is || !is && e != api.ErrForm {
			t.Error(word, e)
		}
		if is && (shown(l) != shown(made(s)) || l[0].Exits[0] != (api.From{Out: 1})) {
			t.Error(word, l)
		}
	}
}

// near asks whether Parse of a text is what the oracle says, and tells whether it is a program.
func near(t *testing.T, s string) bool {
	t.Helper()
	want, is := wantParse(form, s)
	l, e := block.Parse(s)
	if (e == api.OK) != is || is && shown(l) != shown(want) || !is && (len(l) > 0 || e != api.ErrForm) {
		t.Fatalf("%v %v\n%q", l, e, s)
	}
	return is
}

// form is the oracle's grammar, made once since it is asked often.
var form = grammar()

// P8.7: texts of programs with one byte too many, too few or another one.
func TestParseNear(t *testing.T) {
	const bytes = " \n\t\r.0129+-=_abeiknpxAé\x00"
	texts, good := 0, 0
	for _, s := range append(odd()[:5], power[:strings.Index(power, "block main.0")]+"block main.0 3\n  n0 = switch p1 p0\n  next n0 n0 n0\n  exit n0.1\n") {
		for at := range len(s) + 1 {
			var all []string
			for _, c := range []byte(bytes) {
				all = append(all, s[:at]+string([]byte{c})+s[at:])
				if at < len(s) {
					all = append(all, s[:at]+string([]byte{c})+s[at+1:])
				}
			}
			all = append(all, s[:at])
			if at < len(s) {
				all = append(all, s[:at]+s[at+1:])
			}
			for _, other := range all {
				texts++
				if near(t, other) {
					good++
				}
			}
		}
	}
	if good < 100 || good > texts/2 {
		t.Error(texts, good)
	}
}

// P8.7: texts of random programs, in which words and lines were changed, left out or doubled.
func TestParseRandom(t *testing.T) {
	r := rand.New(rand.NewSource(7))
	good := 0
	for range 3000 {
		l := noisy(r, 8)
		s := wantText(l)
		if got, e := block.Text(l); got != s || e != api.OK {
			t.Fatalf("%v\n%s\n%s", e, got, s)
		}
		if !near(t, s) {
			t.Fatal(s)
		}
		sep := []string{" ", "\n"}[r.Intn(2)]
		words := strings.Split(s, sep)
		at, other := r.Intn(len(words)), words[r.Intn(len(words))]
		switch r.Intn(4) {
		case 0:
			words[at] = other
		case 1:
			words[at] = ""
		case 2:
			words[at] += sep + other
		case 3:
			words = append(words[:at], words[at+1:]...)
		}
		if near(t, strings.Join(words, sep)) {
			good++
		}
	}
	if good < 100 || good > 2000 {
		t.Error(good)
	}
}
