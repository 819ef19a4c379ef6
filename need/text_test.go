package need_test

import (
	"testing"

	"floodgate/api"
)

// P7.1, P7.7: the chapter's examples.
func TestExamples(t *testing.T) {
	for _, x := range []struct {
		s    string
		in   api.Inputs
		deep int
		want string
	}{
		{main("int", "x = y + 1; y = 2; give x * x"), nothing(), 1, "9"},
		{main("stream int", "s: stream int = 1 :: s; give s"), nothing(), 1, "[1, ..]"},
		{main("int", "s: stream int = x :: nil(int); x = head(s); give x"), nothing(), 1, "?"},
		{main("int", "give if 1 / 0 < 2 { give 3 } else { give 4 }"), nothing(), 1, "zero!"},
		{main("int", "give loop(i := 0, s := 0) while i < 4 do { next i = i + 1; next s = s + i; } give(s)"), nothing(), 1, "6"},
		{main("[int]", "a: [int] = array(4, 1) { [0] = 1; [i in 1..# - 1] = a[i - 1] * 2 }; give a"), nothing(), 1, "[1, 2, 4, 8]"},
		{on("int", "give head(tail(s))"), open(5), 1, "?"},
		{on("int", "give head(tail(s))"), closed(5), 1, "index!"},
		{main("int", "x = y + 1; y = head(s); s: stream int = 2 :: r; r = 3 :: s; give x"), nothing(), 0, "3"},
		{on("int", "give head(s) * 2"), open(21), 0, "42"},
	} {
		comes(t, x.s, x.in, x.deep, x.want)
	}
}

// P7.1: numbers, truths, operations, and what they give that is no integer any more.
func TestNumbers(t *testing.T) {
	for s, want := range map[string]string{
		"1000000000":                             "1000000000",
		"-7 / 2":                                 "-3",
		"-7 % 2":                                 "-1",
		"7 - 2 - 1":                              "4",
		"--7":                                    "7",
		"1000000000 + 1":                         "range!",
		"-1000000000 - 1":                        "range!",
		"100000 * 100000":                        "range!",
		"1 / 0":                                  "zero!",
		"1 % 0":                                  "zero!",
		"1 / 0 + (1000000000 + 1)":               "zero!",
		"1000000000 + 1 + 1 / 0":                 "range!",
		"-(1 / 0)":                               "zero!",
		"size(array(0) { [i in 0..# - 1] = 1 })": "0",
	} {
		comes(t, main("int", "give "+s), nothing(), 0, want)
	}
	for s, want := range map[string]string{
		"true":                          "true",
		"not true":                      "false",
		"1 == 1 and 1 != 2":             "true",
		"1 < 1 or 1 > 1":                "false",
		"1 <= 1 and 1 >= 1":             "true",
		"2 <= 1 or 1 >= 2":              "false",
		"(1 < 2) == (2 > 1)":            "true",
		"true != true":                  "false",
		"1 / 0 == 1":                    "zero!",
		"1 / 0 != 1":                    "zero!",
		"1 / 0 < 1":                     "zero!",
		"1 / 0 > 1":                     "zero!",
		"1 / 0 >= 1 / 0":                "zero!",
		"not 1 / 0 <= 1":                "zero!",
		"empty(nil(int))":               "true",
		"empty(1 :: nil(int))":          "false",
		"empty(tail(1 :: nil(int)))":    "true",
		"empty(tail(nil(int)))":         "index!",
		"false and 1 / 0 == 1":          "false",
		"true or 1 / 0 == 1":            "true",
		"true and 1 / 0 == 1":           "zero!",
		"false or 1 / 0 == 1":           "zero!",
		"1 / 0 == 1 and false":          "zero!",
		"1 / 0 == 1 or true":            "zero!",
		"1 / 0 == 1 or head(nil(bool))": "zero!",
	} {
		comes(t, main("bool", "give "+s), nothing(), 0, want)
	}
}

// P7.1: streams and their cells, which are worked out when they are needed.
func TestStreams(t *testing.T) {
	for _, x := range []struct {
		s    string
		in   api.Inputs
		deep int
		want string
	}{
		{main("stream int", "give nil(int)"), nothing(), 1, "nil"},
		{main("stream int", "give 1 :: 2 :: nil(int)"), nothing(), 3, "[1, [2, nil]]"},
		{main("int, int", "s = 1 :: 2 :: nil(int); give head(s), head(tail(s))"), nothing(), 1, "1, 2"},
		{main("int", "give head(tail(tail(1 :: nil(int))))"), nothing(), 1, "index!"},
		{main("int", "give head(1 :: f())") + " def f() -> stream int { give f() }", nothing(), 1, "1"},
		{main("stream int", "give 1 :: tail(1 / 0 :: nil(int))"), nothing(), 2, "[1, nil]"},
		{main("stream int", "give 1 / 0 :: tail(nil(int))"), nothing(), 2, "[zero!, index!]"},
		{main("stream int, stream int", "a: stream int = 1 :: b; b: stream int = 2 :: a; give b, a"), nothing(), 2, "[2, [1, ..]], [1, [2, ..]]"},
		{main("stream stream int", "s = 1 :: nil(int); give s :: s :: nil(stream int)"), nothing(), 3, "[[1, nil], [[1, nil], nil]]"},
		{main("stream stream int", "s: stream stream int = t :: s; t: stream int = head(t) :: t; give s"), nothing(), 2, "[[?, ..], [.., ..]]"},
		{main("int", "give head(f(7))") + " def f(n: int) -> stream int { give n :: f(n + 1) }", nothing(), 1, "7"},
		{on("stream int", "give s"), open(), 1, "?"},
		{on("stream int", "give s"), closed(), 1, "nil"},
		{on("stream int", "give s"), open(4, 5), 3, "[4, [5, ?]]"},
		{on("stream int", "give s"), closed(4, 5), 3, "[4, [5, nil]]"},
		{on("stream int", "give tail(tail(s))"), closed(4, 5), 3, "nil"},
		{on("stream int, stream int", "give s, tail(s)"), closed(4, 5), 3, "[4, [5, nil]], [5, nil]"},
		{on("bool, bool", "give empty(s), empty(tail(s))"), open(1), 0, "false, ?"},
		{on("stream int", "give f(s)") + " def f(s: stream int) -> stream int { give if empty(s) { give nil(int) } else { give head(s) + 1 :: f(tail(s)) } }", open(1, 2), 3, "[2, [3, ?]]"},
		{on("stream int", "give f(s)") + " def f(s: stream int) -> stream int { give if empty(s) { give nil(int) } else { give head(s) + 1 :: f(tail(s)) } }", closed(1, 2), 3, "[2, [3, nil]]"},
		{"def main(a: stream int, b: stream int, c: stream int) -> int, stream int { give head(a) - head(b), c }", api.Inputs{L: [][]int{{9}, {2, 3}, nil}, Closed: []bool{true, false, true}}, 1, "7, nil"},
	} {
		comes(t, x.s, x.in, x.deep, x.want)
	}
}

// P7.1: arrays: their sizes, the parts that define their cells, and reads outside of them.
func TestArrays(t *testing.T) {
	for s, want := range map[string]string{
		"array(0) { [i in 0..# - 1] = i }":                                                  "[]",
		"array(3) { [i in 0..# - 1] = i * i }":                                              "[0, 1, 4]",
		"array(3, 1) { [0] = 7; [i in 1..# - 1] = i }":                                      "[7, 1, 2]",
		"array(1, 1) { [0] = 7; [i in 1..# - 1] = i }":                                      "[7]",
		"array(0, 1) { [0] = 7; [i in 1..# - 1] = i }":                                      "size!",
		"array(-1) { [i in 0..# - 1] = i }":                                                 "size!",
		"array(101) { [i in 0..# - 1] = i }":                                                "size!",
		"array(1000000000, 1) { [i in 1..# - 1] = i; [0] = 1 }":                             "size!",
		"array(1 / 0) { [i in 0..# - 1] = i }":                                              "zero!",
		"array(1000000000 + 1) { [i in 0..# - 1] = i }":                                     "range!",
		"array(head(tail(s))) { [i in 0..# - 1] = i }":                                      "?",
		"array(head(s)) { [i in 0..# - 1] = i }":                                            "[0, 1]",
		"array(5) { [i in 1..# - 1 by 2] = i; [j in 0..# - 1 by 2] = -j }":                  "[0, 1, -2, 3, -4]",
		"array(4, 2) { [# - 1] = 1; [# - 2] = 2; [i in 0..# - 3] = 3 }":                     "[3, 3, 2, 1]",
		"array(2) { [i in 0..# - 1] = 1 / i }":                                              "[zero!, 1]",
		"array(3) { [i in 0..# - 1] = head(tail(s)) }":                                      "[?, ?, ?]",
		"array(size(array(2) { [i in 0..# - 1] = head(tail(s)) })) { [k in 0..# - 1] = k }": "[0, 1]",
	} {
		comes(t, on("[int]", "give "+s), open(2), 1, want)
	}
	for s, want := range map[string]string{
		"a[0]":                     "5",
		"a[1]":                     "6",
		"a[2]":                     "index!",
		"a[-1]":                    "index!",
		"a[1000000000 + 1]":        "range!",
		"a[head(tail(s))]":         "?",
		"a[head(s)]":               "6",
		"z[0]":                     "size!",
		"z[1 / 0]":                 "size!",
		"z[head(tail(s))]":         "?",
		"size(a)":                  "2",
		"size(z)":                  "size!",
		"z[0] + a[a[0]]":           "size!",
		"a[a[0] - 5] + a[size(a)]": "index!",
	} {
		comes(t, on("int", "a = array(2) { [i in 0..# - 1] = i + 5 }; z = array(-1) { [i2 in 0..# - 1] = 1 }; give "+s), open(1), 1, want)
	}
	for _, x := range []struct{ results, s, want string }{
		{"[[int]]", "give array(2) { [i in 0..# - 1] = array(i + 1) { [j in 0..# - 1] = i * 10 + j } }", "[[0], [10, 11]]"},
		{"[[int]]", "a = array(2, 1) { [i in 0..# - 1] = array(2, 1) { [0] = i; [j in 1..# - 1] = b[0] } }; b = array(1) { [k in 0..# - 1] = 9 }; give a", "[[0, 9], [1, 9]]"},
		{"[int]", "a: [int] = array(3, 3) { [0] = a[2]; [1] = a[0]; [i in 2..# - 1] = 5 }; give a", "[5, 5, 5]"},
		{"[int]", "a: [int] = array(4, 1) { [0] = 1; [i in 1..# - 1] = if i == 2 { give a[3] } else { give a[i - 1] } }; give a", "[1, 1, ?, ?]"},
		{"[stream int]", "a: [stream int] = array(2) { [i in 0..# - 1] = i :: a[1 - i] }; give a", "[[0, [1, ..]], [1, [0, ..]]]"},
		{"[int], [int]", "a: [int] = array(3) { [i in 0..# - 1] = size(a) + i }; give a, a", "[3, 4, 5], [3, 4, 5]"},
	} {
		comes(t, main(x.results, x.s), nothing(), 3, x.want)
	}
}

// P7.1: calls: their arguments are worked out when they are needed, in the context of the call; items call themselves and each other.
func TestCalls(t *testing.T) {
	for _, x := range []struct{ results, s, items, want string }{
		{"int", "give f(6)", "def f(n: int) -> int { give if n == 0 { give 1 } else { give n * f(n - 1) } }", "720"},
		{"bool", "give even(7)", "def even(n: int) -> bool { give if n == 0 { give true } else { give odd(n - 1) } } def odd(n: int) -> bool { give if n == 0 { give false } else { give even(n - 1) } }", "false"},
		{"int", "give f(1 / 0)", "def f(n: int) -> int { give 3 }", "3"},
		{"int", "give f(1 / 0)", "def f(n: int) -> int { give n }", "zero!"},
		{"int", "give f(f(1))", "def f(n: int) -> int { give n + n }", "4"},
		{"int, int", "give f(1, g(1))", "def f(a: int, b: int) -> int, int { give a, a } def g(n: int) -> int { give g(n) }", "1, 1"},
		{"int", "x, y = f(1); give y", "def f(n: int) -> int, int { x, y = f(n); give x, n + 1 }", "2"},
		{"int, int", "x, y = f(1, 2); give y, x", "def f(a: int, b: int) -> int, int { give b, a }", "1, 2"},
		{"int, bool, int", "give f()", "def f() -> int, bool, int { give g() } def g() -> int, bool, int { give 1, true, 1 / 0 }", "1, true, zero!"},
		{"int", "x: int, y: int = f(head(y :: nil(int))); give x", "def f(n: int) -> int, int { give n, 5 }", "5"},
		{"int", "x: int, y: int = f(head(x :: nil(int))); give x", "def f(n: int) -> int, int { give n, 5 }", "?"},
		{"int", "x: int, y: int = f(head(y :: nil(int))); give x", "def f(n: int) -> int, int { give n, n }", "?"},
		{"int", "x: int, y: int = f(s); s: stream int = y :: nil(int); give x", "def f(s: stream int) -> int, int { give head(s), 5 }", "5"},
		{"int", "x: int, y: int = f(s); s: stream int = y :: nil(int); give x", "def f(s: stream int) -> int, int { give head(s), head(s) + 1 }", "?"},
		{"int", "s: stream int = 1 :: f(s); give head(tail(tail(s)))", "def f(s: stream int) -> stream int { give head(s) + 1 :: f(tail(s)) }", "3"},
		{"int", "y = 2; give f(y) + y", "def f(y: int) -> int { x = y * 10; give x }", "22"},
	} {
		comes(t, main(x.results, x.s)+" "+x.items, nothing(), 3, x.want)
	}
}

// P7.1: loops: turns, names that have a next and others, stmts of turns, several values, loops in loops.
func TestLoops(t *testing.T) {
	for _, x := range []struct{ results, s, want string }{
		{"int", "give loop(i := 3) while false do { next i = 1 / 0; } give(i)", "3"},
		{"int", "give loop(i := 1 / 0) while false do { } give(7)", "7"},
		{"int, int", "give loop(i := 0, s := 1) while i < 4 do { t = s + s; next s = t; next i = i + 1; } give(s, i)", "16, 4"},
		{"int, int", "give loop(a := 0, b := 1, n := 0) while n < 9 do { next n = n + 1; next a = b; next b = a + b; } give(a, b)", "34, 55"},
		{"int, int, int", "give loop(i := 0, k := 5, s := 0) while i < 3 do { next s = s + k; next i = i + 1; } give(i, k, s)", "3, 5, 15"},
		{"int", "give loop(i := 0, x := f()) while i < 3 do { next i = i + 1; next x = f(); } give(i)", "3"},
		{"int", "k = 4; give loop(i := 0, s := 0) while i < k do { u = t * k; t = i + 1; next s = s + u; next i = t; } give(s)", "40"},
		{"int", "give loop(i := 0, s := 0) while i < 3 do { next s = s + loop(j := 0, r := i) while j < i do { next r = r + 10; next j = j + 1; } give(r); next i = i + 1; } give(s)", "33"},
		{"int", "give loop(i := loop(j := 2) while j < 5 do { next j = j * j; } give(j)) while i < 9 do { next i = i + i; } give(i)", "16"},
		{"stream int", "give loop(i := 0, s := nil(int)) while i < 3 do { next s = i :: s; next i = i + 1; } give(s)", "[2, [1, [0, nil]]]"},
		{"[int]", "give loop(i := 0, a := array(2) { [j in 0..# - 1] = j }) while i < 2 do { next a = array(2) { [k in 0..# - 1] = a[1 - k] + i }; next i = i + 1; } give(a)", "[1, 2]"},
		{"int", "give head(loop(i := 0, s := nil(int)) while i < 2 do { r: stream int = i :: r; next s = tail(r); next i = i + 1; } give(s))", "1"},
		{"int", "give loop(i := 0) while 6 / (2 - i) < 7 do { next i = i + 1; } give(i)", "zero!"},
		{"int, int", "x: int, y: int = loop(i := head(s), j := 1) while j < 3 do { next j = j + 1; } give(i + 1, j); s: stream int = y :: nil(int); give x, y", "4, 3"},
		{"int", "x: int = loop(i := head(s)) while i < 3 do { } give(i); s: stream int = x :: nil(int); give x", "?"},
		{"int", "x: int, y: int = loop(i := head(s), k := 0) while k < 2 do { next k = k + 1; } give(i, i); s: stream int = y :: nil(int); give x", "?"},
		{"bool", "give loop(b := true, i := 0) while b do { next b = i < 5; next i = i + 2; } give(i == 8)", "true"},
	} {
		comes(t, main(x.results, x.s)+" def f() -> int { give f() }", nothing(), 4, x.want)
	}
	comes(t, on("int", "give loop(i := 2, x := head(tail(s))) while i < x do { next i = i + 1; } give(3)"), open(1), 0, "?")
	comes(t, on("int, int", "give loop(r := s, n := 0) while not empty(r) do { next r = tail(r); next n = n + head(r); } give(n, 1)"), open(1, 2), 0, "?, ?")
	comes(t, on("int, int", "give loop(r := s, n := 0) while not empty(r) do { next r = tail(r); next n = n + head(r); } give(n, 1)"), closed(1, 2), 0, "3, 1")
}

// P7.1: what is needed for itself: directly, over other names, over calls, and over cells; and several values of which only one is.
func TestNeededForItself(t *testing.T) {
	for _, x := range []struct{ results, s, want string }{
		{"int", "s: stream int = x :: nil(int); x = head(s) + 1; give x", "?"},
		{"int, int", "s: stream int = x :: nil(int); x = head(s) + 1; give 4, x", "4, ?"},
		{"int", "x: int = head(y :: nil(int)); y: int = x + 1; give y", "?"},
		{"int", "s: stream int = z :: nil(int); z: int = y + 1; y: int = x + 1; x: int = head(s); give y", "?"},
		{"int", "s: stream int = f(x) :: nil(int); x: int = head(s); give x", "?"},
		{"int", "s: stream int = f(x) + 1 :: nil(int); x: int = g(head(s)); give x", "0"},
		{"[int]", "a: [int] = array(2, 2) { [0] = a[1]; [1] = a[0]; [i in 2..# - 1] = 7 }; give a", "[?, ?]"},
		{"[int]", "a: [int] = array(1, 1) { [0] = a[0]; [i in 1..# - 1] = 7 }; give a", "[?]"},
		{"[int]", "a: [int] = array(3, 1) { [i in 0..# - 2] = a[i + 1]; [# - 1] = a[0] }; give a", "[?, ?, ?]"},
		{"stream int", "s: stream int = head(s) :: s; give s", "[?, [?, ..]]"},
		{"stream int", "s: stream int = 1 :: tail(s); give s", "[1, ?]"},
		{"stream stream int", "s: stream stream int = head(tail(s)) :: (2 :: head(s)) :: nil(stream int); give s", "[[2, ..], [.., nil]]"},
		{"int", "x = if y < 1 { give 1 } else { give 2 }; y = head(s); s: stream int = x :: nil(int); give x + 1", "?"},
		{"int, int", "x: int, y: int = if b { give y2, 1 } else { give 3, 4 }; y2: int = head(s); s: stream int = x :: nil(int); b = true; give y, x", "1, ?"},
		{"int, int", "x: int, y: int = if b { give head(s), 1 } else { give 3, 4 }; s: stream int = y :: nil(int); b = true; give x, y", "1, 1"},
		{"int, int", "x: int, y: int = if head(s) == 1 { give 2, 1 } else { give 3, 4 }; s: stream int = y :: nil(int); give x, y", "?, ?"},
		{"int, int", "x: int, y: int = if head(s) == 1 { give 2, 1 } else { give 3, 4 }; s: stream int = 1 :: y :: nil(int); give x, head(tail(s))", "2, 1"},
		{"int", "b: stream bool = (x == 1) :: nil(bool); x: int = if head(b) or true { give 1 } else { give 2 }; give x", "?"},
		{"int", "b: stream bool = (x == 1) :: nil(bool); x: int = if true or head(b) { give 1 } else { give 2 }; give x", "1"},
		{"int", "b: stream int = size(a) :: nil(int); a: [int] = array(head(b)) { [i in 0..# - 1] = 1 }; give size(a)", "?"},
		{"int", "b: stream int = size(a) :: nil(int); a: [int] = array(2) { [i in 0..# - 1] = head(b) }; give a[1]", "2"},
	} {
		s := main(x.results, x.s) + " def f(n: int) -> int { give n } def g(n: int) -> int { give 0 }"
		comes(t, s, nothing(), 2, x.want)
	}
}

// P7.1, P7.10: what nothing needs is not worked out, however it would end.
func TestNotNeeded(t *testing.T) {
	for _, x := range []struct{ results, s, want string }{
		{"int", "x = f(1); give 2", "2"},
		{"int", "x, y = g(1); give y", "2"},
		{"int", "give if true { give 1 } else { give f(1) }", "1"},
		{"int", "give if false { x = f(1); give x } else { give 1 }", "1"},
		{"bool", "give true or f(1) == 1", "true"},
		{"bool", "give false and f(1) == 1", "false"},
		{"int", "give size(array(3) { [i in 0..# - 1] = f(i) })", "3"},
		{"int", "give array(3, 1) { [0] = 4; [i in 1..# - 1] = f(i) }[0]", "4"},
		{"int", "give head(tail(f(1) :: 5 :: h(1)))", "5"},
		{"bool", "give empty(f(1) :: h(1))", "false"},
		{"int", "give loop(i := 0, x := f(1)) while i < 2 do { y = f(i); next x = y; next i = i + 1; } give(i)", "2"},
		{"int", "give k(4, f(4))", "4"},
		{"int", "give if 1 / 0 == 1 { give f(1) } else { give f(2) }", "zero!"},
	} {
		comes(t, main(x.results, x.s)+" def f(n: int) -> int { give f(n + 1) } def g(n: int) -> int, int { x, y = g(n); give x, n + 1 } def h(n: int) -> stream int { give h(n) } def k(a: int, b: int) -> int { give a }", nothing(), 1, x.want)
	}
}
