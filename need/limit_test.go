package need_test

import (
	"fmt"
	"slices"
	"strings"
	"testing"

	"floodgate/api"
	"floodgate/need"
)

// most asks whether a program can just be worked out with so many contexts and structures; with over it cannot.
func most(t *testing.T, s, over string, in api.Inputs, contexts, structs int) {
	t.Helper()
	if c, n, e := need.Count(tree(t, s), in); c != contexts || n != structs || e != api.OK {
		t.Error(s, c, n, e)
	}
	if _, e := need.Run(tree(t, s), in); e != api.OK {
		t.Error(s, e)
	}
	wrong(t, over, in, api.ErrLimit)
}

// P7.1, P7.4, R7: 400 contexts, of calls, turns and cells, and no more.
func TestMostContexts(t *testing.T) {
	calls := func(n int) string {
		return main("int", fmt.Sprintf("give f(%d)", n)) + " def f(n: int) -> int { give if n == 0 { give 0 } else { give f(n - 1) } }"
	}
	most(t, calls(398), calls(399), nothing(), 400, 0)
	turns := func(n int) string {
		return main("int", fmt.Sprintf("give loop(i := 0) while i < %d do { next i = i + 1; } give(i)", n))
	}
	most(t, turns(398), turns(399), nothing(), 400, 0)
	cells := func(n int) string {
		s, gives := "", []string{}
		for i, n := range []int{100, 100, 100, n} {
			s += fmt.Sprintf("a%d = array(%d) { [i%d in 0..# - 1] = i%d }; ", i, n, i, i)
			gives = append(gives, fmt.Sprintf("a%d", i))
		}
		return main("[int], [int], [int], [int]", s+"give "+strings.Join(gives, ", "))
	}
	most(t, cells(99), cells(100), nothing(), 400, 4)
	streams := func(n int) string {
		return main("stream int", fmt.Sprintf("give f(%d)", n)) + " def f(n: int) -> stream int { give if n == 0 { give nil(int) } else { give n :: f(n - 1) } }"
	}
	most(t, streams(398), streams(399), nothing(), 400, 398)
	wrong(t, main("stream int", "give f(1)")+" def f(n: int) -> stream int { give n :: f(n) }", nothing(), api.ErrLimit)
	wrong(t, main("int", "give loop(i := 0) while true do { } give(i)"), nothing(), api.ErrLimit)
	wrong(t, main("int", "give f(1)")+" def f(n: int) -> int { give 1 + f(n) * g(n) } def g(n: int) -> int { give f(n) }", nothing(), api.ErrLimit)
	// What is not needed does not count.
	most(t, main("int", "x = f(1); give g(1)")+" def f(n: int) -> int { give f(n) } def g(n: int) -> int { give n }", main("int", "x = f(1); give g(x)")+" def f(n: int) -> int { give f(n) } def g(n: int) -> int { give n }", nothing(), 2, 0)
}

// P7.1, P7.2, P7.4, R7: 400 structures, those of the inputs and of the picture among them, and no more.
func TestMostStructs(t *testing.T) {
	streams := func(turns int, more string) string {
		return on("stream int", fmt.Sprintf("give %sloop(i := 0, r := s) while i < %d do { next r = i :: i :: r; next i = i + 1; } give(r)", more, turns))
	}
	most(t, streams(200, ""), streams(200, "1 :: "), open(), 202, 400)
	most(t, streams(180, ""), streams(180, "1 :: "), open(make([]int, 40)...), 182, 400)
	most(t, streams(180, "1 :: "), streams(180, "1 :: 1 :: "), closed(make([]int, 39)...), 182, 400)
	x := tree(t, "def f(s: stream int) -> stream int { give 1 :: s } def g(s: stream int) -> stream int { give tail(s) }")
	p := picture(values(ref(0)))
	for i := range 400 {
		p.Cells = append(p.Cells, values(num(i), ref(min(i+1, 399))))
	}
	if q, e := need.Apply(x, 0, p); !isNothing(q) || e != api.ErrLimit {
		t.Error(len(q.Cells), e)
	}
	if q, e := need.Apply(x, 1, p); len(q.Cells) != 399 || e != api.OK {
		t.Error(len(q.Cells), e)
	}
	p.Cells = p.Cells[:399]
	p.Cells[398] = values(num(398), hole())
	if q, e := need.Apply(x, 0, p); len(q.Cells) != 400 || e != api.OK {
		t.Error(len(q.Cells), e)
	}
}

// P7.1, R7: inputs of 40 integers, and no more; three of them.
func TestMostInputs(t *testing.T) {
	s := "def main(a: stream int, b: stream int, c: stream int) -> int { give head(a) + head(b) + head(c) }"
	l := slices.Repeat([]int{2}, 40)
	in := api.Inputs{L: [][]int{l, l, l}, Closed: []bool{true, false, true}}
	if c, n, e := need.Count(tree(t, s), in); c != 1 || n != 120 || e != api.OK {
		t.Error(c, n, e)
	}
	comes(t, s, in, 0, "6")
	for k := range 3 {
		in.L[k] = append(slices.Clone(l), 2)
		wrong(t, s, in, api.ErrLimit)
		in.L[k] = l
	}
}

// P1: nodes one in the other, over all contexts that there can be: all is worked out, whatever stands around it.
func TestDeep(t *testing.T) {
	minus := func(name, first string, many, deep int) (string, string) {
		s := ""
		for i := range many {
			s += fmt.Sprintf("%s%d = %s%s; ", name, i, strings.Repeat("-", deep), first)
			first = fmt.Sprintf("%s%d", name, i)
		}
		return s, first
	}
	a, x := minus("a", "f(n - 1)", 12, 22)
	b, y := minus("b", x, 12, 22)
	s := "def main() -> int { give f(398) } def f(n: int) -> int { give if n == 0 { give 1 } else { " + a + "give if n == 0 { give 0 } else { " + b + "give " + y + " } } }"
	if p, e := need.Run(tree(t, s), nothing()); !samePicture(p, picture(values(num(1)))) || e != api.OK {
		t.Error(p, e)
	}
	// What is blighted is gone through once more for each of its values.
	a, x = minus("a", "-(u1 + (u2 + (u3 + u4)))", 12, 19)
	b, y = minus("b", x, 12, 18)
	s = "def main() -> int { give f(398) } def f(n: int) -> int { p0: int, p1: int, p2: int, p3: int = if 1 / 0 == 0 { give 1, 1, 1, 1 } else { " + a + "give if 0 == 0 { give 1, 1, 1, 1 } else { " + b + "give " + strings.Join([]string{y, y, y, y}, ", ") + " } }; u1: int = t[0]; u2: int = t[1]; u3: int = t[2]; t: [int] = array(3, 3) { [0] = p1; [1] = p2; [2] = p3; [i in 3..# - 1] = 0 }; u4 = if n == 0 { give 1 } else { give f(n - 1) }; give p0 }"
	if p, e := need.Run(tree(t, s), nothing()); !samePicture(p, picture(values(hole()))) || e != api.OK {
		t.Error(p, e)
	}
	// A name that is used twice in each of many blighted blocks, one in the other.
	stmts := ""
	for i := range 60 {
		stmts += fmt.Sprintf("k%d = k%d + k%d; ", i+1, i, i)
		if i%12 == 11 {
			stmts += "give if true { give 1 } else { "
		}
	}
	s = main("int", "k0 = 1; give if 1 / 0 == 0 { give 1 } else { "+stmts+"give k60 }"+strings.Repeat(" }", 5))
	if text, at, e := need.Text(s, nothing(), 0); text != "zero!" || at != 0 || e != api.OK {
		t.Error(text, at, e)
	}
	s = strings.Replace(s, "k0 = 1", "z: stream int = k0 :: z; k0 = head(z)", 1)
	if text, at, e := need.Text(s, nothing(), 0); text != "?" || at != 0 || e != api.OK {
		t.Error(text, at, e)
	}
}
