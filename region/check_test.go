package region_test

import (
	"math/rand"
	"slices"
	"strconv"
	"strings"
	"testing"

	"floodgate/api"
	"floodgate/parse"
	"floodgate/region"
	"floodgate/types"
)

// P5.1: texts whose arrays are right from their least sizes on, or the first ^ of which is not.
func TestCheck(t *testing.T) {
	for _, x := range []struct {
		s string
		m api.Miss // its kind is 0 if all arrays are right
	}{
		{"def f() -> int { give 1 }", api.Miss{}},
		{"", api.Miss{}},
		{def("array(n, 2) { [0] = 1; [i in 1..# - 1] = 2 }"), api.Miss{}},
		{def("array(n, 1) { [0] = 1; [i in 1..# - 1] = 2 }"), api.Miss{}},
		{def("^array(n, 0) { [0] = 1; [i in 1..# - 1] = 2 }"), miss(0, 0, api.CellOutside)},
		{def("^array(n) { [0] = 1; [i in 1..# - 1] = 2 }"), miss(0, 0, api.CellOutside)},
		{def("array(n) { [i in 0..# - 1] = 2 }"), api.Miss{}},
		{def("^array(n) { [i in 0..#] = 2 }"), miss(0, 0, api.CellOutside)},
		{def("^array(n, 7) { [i in 0..#] = 2 }"), miss(7, 7, api.CellOutside)},
		{def("^array(n, 7) { [i in 1..# - 1] = 2 }"), miss(7, 0, api.CellMissing)},
		{def("^array(n, 2) { [i in 0..# - 1] = 2; [# - 1] = 1 }"), miss(2, 1, api.CellTwice)},
		{def("^array(n, 2) { [i in 0..# - 1 by 2] = 2; [1] = 1; [3] = 1 }"), miss(2, 3, api.CellOutside)},
		{def("^array(n, 4) { [i in 0..# - 1 by 2] = 2; [1] = 1; [3] = 1 }"), miss(6, 5, api.CellMissing)},
		{def("^array(5, 5) { [i in 0..# - 1 by 2] = 2; [1] = 1; [3] = 1 }"), miss(6, 5, api.CellMissing)},
		{def("array(n, 100) { [i in 0..99] = 2 }"), api.Miss{}},
		{def("^array(n, 99) { [i in 0..99] = 2 }"), miss(99, 99, api.CellOutside)},
		{def("^array(n, 100) { [i in 0..98] = 2 }"), miss(100, 99, api.CellMissing)},
		{def("^array(n, 100) { [i in 0..100] = 2 }"), miss(100, 100, api.CellOutside)},
		{def("^array(n, 3) { [# - 5] = 2 }"), miss(3, -2, api.CellOutside)},
		{def("array(n, 4) { [i in 0..# - 1 by 3] = i; [j in 1..# - 1 by 3] = 2; [k in 2..# - 1 by 3] = 3; [p in 100..# - 1] = 4; [q in #..# - 1] = 5 }"), api.Miss{}},
		{def("array(n, 9) { " + spans(8) + " }"), api.Miss{}},
		{def("^array(n, 6) { " + spans(8) + " }"), miss(6, 6, api.CellOutside)},
		{def("^array(n) { [0] = array(n) { [i in 0..# - 1] = 1 }[0] }"), miss(0, 0, api.CellOutside)},
		{def("array(n) { [0] = ^array(n, 3) { [0] = 1 }[0] }"), miss(3, 1, api.CellMissing)},
		{def("array(size(^array(n, 4) { [0] = 1 })) { [0] = array(n, 3) { [0] = 1 }[0] }"), miss(4, 1, api.CellMissing)},
		{"def f() -> int { give array(1, 1) { [i in 0..# - 1] = 1 }[0] } def g() -> int { x = 1; give ^array(x, 1) { [0] = 1 }[0] } def h() -> int { give array(1) { [0] = 1 }[0] }", miss(2, 1, api.CellMissing)},
		{"def f(n: int) -> [int] { give loop(i := 0) while i < n do { a = ^array(n, 1) { [1] = 1 }; next i = i + a[0]; } give(array(n) { [1] = 2 }) }", miss(1, 0, api.CellMissing)},
		{"def f(n: int) -> [int] { give if n < 0 { give array(n) { [i in 0..# - 1] = 1 } } else { give ^array(n) { [0] = 1 } } }", miss(0, 0, api.CellOutside)},
	} {
		y, node := marked(t, x.s)
		want := api.OK
		if x.m.Kind != 0 {
			want = api.ErrFalse
		}
		if got, m, e := region.Check(y); got != node || m != x.m || e != want {
			t.Error(x.s, got, m, e)
		}
	}
}

// spans are so many cell definitions, right from so many cells less one on.
func spans(many int) string {
	var all []string
	for n := range many - 1 {
		all = append(all, "["+strconv.Itoa(n)+"] = 1")
	}
	return strings.Join(append(all, "[i in "+strconv.Itoa(many-1)+"..# - 1] = 1"), "; ")
}

// P5.1, R1: the errors of types.Infer first, with its node and no miss, also where an earlier array is not right.
func TestCheckErrors(t *testing.T) {
	const wrong = "x = array(n) { [0] = 1 }[0]; "
	for _, x := range []struct {
		s string
		e api.Errno
	}{
		{"def f(n: int) -> int { " + wrong + "give ^y }", api.ErrName},
		{"def f(n: int) -> int { " + wrong + "give n ^+ true }", api.ErrType},
		{"def f(n: int) -> int { " + wrong + "give ^array(true) { [0] = 1 }[0] }", api.ErrType},
		{"def f(n: int) -> int { " + wrong + "give ^array(1) { [0] = 1; [1] = true }[0] }", api.ErrType},
		{"^def f(n: int) -> bool { " + wrong + "give x }", api.ErrType},
	} {
		y, node := marked(t, x.s)
		if got, m, e := region.Check(y); got != node || m != (api.Miss{}) || e != x.e {
			t.Error(x.s, got, m, e)
		}
	}
	formless := tree(t, def("array(n) { [0] = 1 }"))
	formless.Nodes[len(formless.Nodes)-2].N = 7
	large := api.Tree{Nodes: slices.Repeat(formless.Nodes, 60)}
	for _, x := range []struct {
		x    api.Tree
		want api.Errno
	}{{formless, api.ErrForm}, {large, api.ErrLimit}, {api.Tree{Items: l(0)}, api.ErrForm}} {
		if node, m, e := region.Check(x.x); node != 0 || m != (api.Miss{}) || e != x.want {
			t.Error(node, m, e)
		}
		for _, node := range l(-1, 0, 8, 9) {
			if got, least, e := region.Parts(x.x, node); len(got) != 0 || least != 0 || e != x.want {
				t.Error(node, got, least, e)
			}
		}
	}
}

// P5.2: bounds of both kinds at both ends, steps at both ends, least sizes at both ends; in trees that have no types as well.
func TestParts(t *testing.T) {
	for _, x := range []struct {
		s     string
		all   []api.Part
		least int
	}{
		{def("^array(n, 2) { [0] = 1; [1] = 2; [i in 2..# - 1] = x[i] }"), sample(), 2},
		{def("^array(n) { [#] = 1 }"), parts(cell("#")), 0},
		{def("^array(n, 0) { [# - 0] = 1 }"), parts(cell("#")), 0},
		{def("^array(n, 100) { [100] = 1; [# - 100] = 1 }"), parts(cell("100"), cell("# - 100")), 100},
		{def("^array(n, 7) { [i in 0..100 by 9] = 1; [i in # - 100..# by 1] = 1; [j in #..0 by 2] = 1 }"), parts(span("0", "100", 9), span("# - 100", "#", 1), span("#", "0", 2)), 7},
		{def("^array(n, 1) { [0] = 1; [0] = 1; [i in 0..0] = 1 }"), parts(cell("0"), cell("0"), cell("0")), 1},
		{def("^array(true, 9) { " + spans(8) + " }"), parts(cell("0"), cell("1"), cell("2"), cell("3"), cell("4"), cell("5"), cell("6"), span("7", "# - 1", 1)), 9},
		{def("^array(array(n, 3) { [5] = 1 }[0], 4) { [1] = array(n, 8) { [6] = 1 }; [2] = true }"), parts(cell("1"), cell("2")), 4},
		{def("array(^array(n, 3) { [5] = 1 }[0], 4) { [1] = array(n, 8) { [6] = 1 } }"), parts(cell("5")), 3},
		{def("array(array(n, 3) { [5] = 1 }[0], 4) { [1] = ^array(n, 8) { [6] = 1 } }"), parts(cell("6")), 8},
		{"def f() -> int { give 1 } def g() -> int { give ^array(y, 5) { [i in 3..4 by 5] = z } }", parts(span("3", "4", 5)), 5},
	} {
		y, node := marked(t, x.s)
		if got, least, e := region.Parts(y, node); !slices.Equal(got, x.all) || least != x.least || e != api.OK {
			t.Error(x.s, got, least, e)
		}
		for node := -1; node <= len(y.Nodes); node++ {
			if node >= 0 && node < len(y.Nodes) && y.Nodes[node].Kind == api.ArrayNode {
				continue
			}
			if got, least, e := region.Parts(y, node); len(got) != 0 || least != 0 || e != api.ErrNone {
				t.Error(x.s, node, got, least, e)
			}
		}
	}
	y := tree(t, def("array(n, 2) { [0] = 1 }"))
	for _, node := range l(-1<<63, 1<<63-1) {
		if got, least, e := region.Parts(y, node); len(got) != 0 || least != 0 || e != api.ErrNone {
			t.Error(node, got, least, e)
		}
	}
}

// grown is an array of a text: its parts, and its least size.
type grown struct {
	all   []api.Part
	least int
}

// grower makes texts of arrays, and lists these in the order in which they end.
type grower struct {
	r      *rand.Rand
	spoils int // one array out of so many is spoiled, and has another least size
	list   []grown
	names  int
}

// expr is an expression with the type int.
func (g *grower) expr(deep int) string {
	if deep == 0 || g.r.Intn(3) > 0 {
		return "n"
	}
	return g.array(deep) + "[" + g.expr(deep-1) + "]"
}

func (g *grower) array(deep int) string {
	all := goodParts(g.r)
	for len(all) > api.MaxParts {
		all = goodParts(g.r)
	}
	least, _ := region.Least(all)
	least = min(least+g.r.Intn(3)*g.r.Intn(30), api.MaxArray)
	if g.r.Intn(g.spoils) == 0 {
		if all = spoiled(g.r, all); len(all) == 0 || len(all) > api.MaxParts {
			all = parts(anyPart(g.r))
		}
		least = g.r.Intn(l(5, 101)[g.r.Intn(2)])
	}
	s := "array(" + g.expr(deep-1)
	if least > 0 || g.r.Intn(2) == 0 {
		s += ", " + strconv.Itoa(least)
	}
	var cells []string
	for _, p := range all {
		cells = append(cells, g.cells(p)+" = "+g.expr(deep-1))
	}
	g.list = append(g.list, grown{all, least})
	return s + ") { " + strings.Join(cells, "; ") + " }"
}

// cells writes a part as cells of a text, a span with a name of its own.
func (g *grower) cells(p api.Part) string {
	if p.From == p.To && p.Step == 1 && g.r.Intn(2) == 0 {
		return "[" + shown(p.From) + "]"
	}
	by := " by " + strconv.Itoa(p.Step)
	if p.Step == 1 && g.r.Intn(2) == 0 {
		by = ""
	}
	g.names++
	return "[i" + strconv.Itoa(g.names) + " in " + shown(p.From) + ".." + shown(p.To) + by + "]"
}

// text is a text with several items.
func (g *grower) text() string {
	var items []string
	for _, name := range []string{"f", "g", "h"} {
		s := "def " + name + "(n: int) -> [int] { "
		for _, stmt := range []string{"a", "b", "c"}[:g.r.Intn(4)] {
			s += stmt + " = " + g.expr(2) + "; "
		}
		items = append(items, s+"give "+g.array(2)+" }")
	}
	return strings.Join(items, "\n")
}

// P5.1, P5.2: random texts with several arrays, one in the other; those that are right, and those of which some array is not.
func TestCheckRandom(t *testing.T) {
	r := rand.New(rand.NewSource(5))
	right, wrong, later := 0, 0, 0
	for range 300 {
		g := &grower{r: r, spoils: 2 + r.Intn(30)}
		y, _, e := parse.Parse(g.text())
		if e != api.OK {
			continue
		}
		if _, _, e := types.Infer(y); e != api.OK {
			t.Fatal(e)
		}
		node, m, e := region.Check(y)
		var arrays []int
		for i, n := range y.Nodes {
			if n.Kind == api.ArrayNode {
				arrays = append(arrays, i)
			}
		}
		if len(arrays) != len(g.list) {
			t.Fatal(len(arrays), len(g.list))
		}
		for i, x := range g.list {
			if all, least, e := region.Parts(y, arrays[i]); !slices.Equal(all, x.all) || least != x.least || e != api.OK {
				t.Fatal(all, least, e, x)
			}
		}
		bad := slices.IndexFunc(g.list, func(x grown) bool {
			_, e := wantFirst(x.all, x.least)
			return e == api.OK
		})
		if bad < 0 {
			right++
			if node != 0 || m != (api.Miss{}) || e != api.OK {
				t.Fatal(node, m, e)
			}
			continue
		}
		wrong++
		later += min(bad, 1)
		want, _ := wantFirst(g.list[bad].all, g.list[bad].least)
		if node != arrays[bad] || m != want || e != api.ErrFalse {
			t.Fatal(node, m, e, arrays[bad], want)
		}
	}
	if right < 50 || wrong < 50 || later < 20 {
		t.Error(right, wrong, later)
	}
}
