package types_test

import (
	"fmt"
	"slices"
	"strings"
	"testing"
)

// samples are expressions of def, by their types.
func samples() map[string][]string {
	return map[string][]string{
		"i": l("int"), "b": l("bool"), "s": l("stream int"), "a": l("[int]"), "z": l("stream bool"), "nil([int])": l("stream [int]"), "nil(stream int)": l("stream stream int"),
		"array(1) { [0] = s }": l("[stream int]"), "array(1) { [0] = a }": l("[[int]]"),
		"two()": l("int", "int"), "mix()": l("int", "bool", "stream int"), "ask(1, true)": l("bool", "int"),
	}
}

// judge compares a text with one marked node with the types that this node must have, or nothing for an error there.
func judge(t *testing.T, s string, want []string) {
	t.Helper()
	if len(want) == 0 {
		wrong(t, s)
		return
	}
	right(t, s, want...)
}

// just is one type, if some types are just it, or nothing.
func just(types []string) string {
	if len(types) != 1 {
		return ""
	}
	return types[0]
}

// when is a list of one type, if something is so.
func when(so bool, s string) []string {
	if !so {
		return nil
	}
	return l(s)
}

// P4.1, P4.8: the rows with two kids, for all pairs of types.
func TestTwoKids(t *testing.T) {
	both := func(asks, gives string) func(x, y string) []string {
		return func(x, y string) []string { return when(x == asks && y == asks, gives) }
	}
	equal := func(x, y string) []string { return when(x == y && (x == "int" || x == "bool"), "bool") }
	for form, rule := range map[string]func(x, y string) []string{
		"%s ^+ %s": both("int", "int"), "%s ^- %s": both("int", "int"), "%s ^* %s": both("int", "int"), "%s ^/ %s": both("int", "int"), "%s ^%% %s": both("int", "int"),
		"%s ^< %s": both("int", "bool"), "%s ^<= %s": both("int", "bool"), "%s ^> %s": both("int", "bool"), "%s ^>= %s": both("int", "bool"),
		"%s ^and %s": both("bool", "bool"), "%s ^or %s": both("bool", "bool"), "%s ^== %s": equal, "%s ^!= %s": equal,
		"%s ^:: %s":                                        func(x, y string) []string { return when(x != "" && y == "stream "+x, y) },
		"%s^[%s]":                                          func(x, y string) []string { return when(strings.HasPrefix(x, "[") && y == "int", inside(x)) },
		"^array(%s) { [0] = %s }":                          func(x, y string) []string { return when(x == "int" && y != "", "["+y+"]") },
		"^array(%s, 1) { [k in 0..# - 1] = %s }":           func(x, y string) []string { return when(x == "int" && y != "", "["+y+"]") },
		"^array(1, 2) { [0] = %s; [1] = %s }":              func(x, y string) []string { return when(x != "" && x == y, "["+x+"]") },
		"^array(1) { [k in 0..1] = %s; [l in 2..2] = %s }": func(x, y string) []string { return when(x != "" && x == y, "["+x+"]") },
		"^ask(%s, %s)":                                     nil,
	} {
		for x, xs := range samples() {
			for y, ys := range samples() {
				s := fmt.Sprintf(form, "("+x+")", "("+y+")")
				if rule != nil {
					judge(t, expr(s), rule(just(xs), just(ys)))
				} else if just(xs) == "int" && just(ys) == "bool" {
					right(t, def("p, q = "+s+"; give 1"), "bool", "int")
				} else {
					wrong(t, def("p, q = "+s+"; give 1"))
				}
			}
		}
	}
}

// inside is the type in brackets.
func inside(s string) string {
	s = strings.TrimPrefix(s, "[")
	return s[:max(0, len(s)-1)]
}

// P4.1, P4.8: the rows with one kid, for all types.
func TestOneKid(t *testing.T) {
	element, isStream := func(s string) string { return strings.TrimPrefix(s, "stream ") }, func(s string) bool { return strings.HasPrefix(s, "stream ") }
	for form, rule := range map[string]func(x string) []string{
		"^-(%s)": func(x string) []string { return when(x == "int", "int") }, "^not (%s)": func(x string) []string { return when(x == "bool", "bool") },
		"^head(%s)": func(x string) []string { return when(isStream(x), element(x)) }, "^tail(%s)": func(x string) []string { return when(isStream(x), x) }, "^empty(%s)": func(x string) []string { return when(isStream(x), "bool") },
		"^size(%s)":                                        func(x string) []string { return when(strings.HasPrefix(x, "["), "int") },
		"^if %s { give s } else { give s }":                func(x string) []string { return when(x == "bool", "stream int") },
		"^loop(p := 1) while %s do { } give(a)":            func(x string) []string { return when(x == "bool", "[int]") },
		"loop(^p := %s) while true do { } give(1)":         func(x string) []string { return when(x != "", x) },
		"loop(p := %s) while true do { } give(^p)":         func(x string) []string { return when(x != "", x) },
		"loop(q := i, p := %s) while true do { } give(^p)": func(x string) []string { return when(x != "", x) },
	} {
		for x, xs := range samples() {
			s := fmt.Sprintf(form, x)
			if strings.Contains(form, "give(^p)") && just(xs) == "" {
				s = strings.Replace(strings.ReplaceAll(s, "^", ""), "p :=", "^p :=", 1)
			}
			judge(t, expr(s), rule(just(xs)))
		}
	}
	for s, want := range map[string]string{"^0": "int", "^1000000000": "int", "^true": "bool", "^false": "bool", "^nil(int)": "stream int", "^nil(stream [bool])": "stream stream [bool]", "^nil([stream int])": "stream [stream int]", "^i": "int", "^b": "bool", "^s": "stream int", "^a": "[int]", "^z": "stream bool"} {
		right(t, expr(s), want)
	}
}

// P4.1, P4.8: ifs, blocks and loops, which give as many values as what is in them.
func TestSeveral(t *testing.T) {
	binds := func(many int) string { return strings.Join(l("p", "q", "r", "t")[:many], ", ") + " = " }
	for x, xs := range samples() {
		for y, ys := range samples() {
			s := binds(len(xs)) + "^if true { give " + x + " } else { give " + y + " }; give 1"
			if !slices.Equal(xs, ys) {
				wrong(t, def(s))
			} else {
				right(t, def(s), xs...)
			}
			// Of several exprs each must have one.
			var want []string
			if len(xs) == 1 && len(ys) == 1 {
				want = append(slices.Clone(xs), ys...)
			}
			judge(t, def("p, q = if true ^{ give "+x+", "+y+" } else { give "+x+", "+y+" }; give 1"), want)
			judge(t, def("p, q = loop(k := 1) while true do { } ^give("+x+", "+y+"); give 1"), want)
			if len(want) > 0 {
				right(t, def("p, q = ^if true ^{ give "+x+", "+y+" } else ^{ give "+x+", "+y+" }; give 1"), want...)
				right(t, def("p, q = ^loop(k := 1) while true do { } ^give("+x+", "+y+"); give 1"), want...)
			}
			// A next has the type of its init, and just one.
			next := "loop(p := " + x + ") while true do { ^next p = " + y + "; } give(1)"
			if len(xs) == 1 && slices.Equal(xs, ys) {
				right(t, expr(next))
			} else if len(xs) == 1 {
				wrong(t, expr(next))
			}
		}
		// A single expr can have any number.
		right(t, def(binds(len(xs))+"^loop(k := 1) while true do { } ^give("+x+"); give 1"), xs...)
		right(t, def(binds(len(xs))+"^if b ^{ give "+x+" } else ^{ give "+x+" }; give 1"), xs...)
	}
	right(t, def("p, q, r, t = ^if b ^{ give b, i, i, a } else ^{ give four() }; give 1"), "bool", "int", "int", "[int]")
	right(t, def("p, q, r, t = ^if b ^{ give ^loop(k := 1) while b do { } ^give(^four()) } else ^{ give ^if b ^{ give b, 1, 2, a } else ^{ give b, 1, 2, a } }; give 1"), "bool", "int", "int", "[int]")
	wrong(t, def("p, q, r = if b { give 1 } else ^{ give two(), 1 }; give 1"))
	wrong(t, def("p, q = ^if b { give 1, 2 } else { give 1 }; give 1"))
	wrong(t, def("p, q = ^if b { give 1, 2 } else { give 1, 2, 3 }; give 1"))
	wrong(t, def("p, q = ^if b { give 1, true } else { give true, 1 }; give 1"))
	// The second next is looked at by its own init.
	right(t, expr("loop(p := 1, q := true) while q do { next q = false; ^next p = 2; } give(1)"))
	wrong(t, expr("loop(p := 1, q := true) while q do { next q = false; ^next p = false; } give(1)"))
	wrong(t, expr("loop(p := 1, q := true) while q do { ^next q = 1; next p = 2; } give(1)"))
}

// P4.1, P4.8: arguments: as many as params, of their types, in their order, one each.
func TestCalls(t *testing.T) {
	const items = " def none() -> int { give 1 } def five(a: int, b: bool, c: [int], d: stream int, e: stream stream bool) -> [int] { give c }"
	right(t, expr("^none()")+items, "int")
	right(t, expr("^five(i, b, a, s, nil(stream bool))")+items, "[int]")
	for _, s := range []string{"^none(1)", "^none(two())", "^five()", "^five(i, b, a, s)", "^five(b, i, a, s, nil(stream bool))", "^five(i, b, a, s, z)", "^five(two(), b, a, s, nil(stream bool))", "^five(i, b, a, nil(stream bool), s)", "^five(i, b, s, a, nil(stream bool))", "^f(1)", "^f()"} {
		wrong(t, expr(s)+items)
	}
	// Several values are not several arguments.
	wrong(t, def("p, q = ^ask(ask(1, b)); give 1"))
	wrong(t, def("p, q = ^ask(1, b, 1); give 1"))
	wrong(t, def("p, q = ^ask(1); give 1"))
	// Items call themselves, and each other, whatever their order.
	right(t, "def f(n: int) -> bool { give ^g(^f(n)) } def g(b: bool) -> bool { give ^f(1) and ^g(b) }", "bool")
}

// P4.1, P4.8: stmts: as many types as binds, and the types of their own in their places.
func TestStmts(t *testing.T) {
	exprs := []string{"i", "two()", "mix()", "four()"}
	for many := range 4 {
		for have, x := range exprs {
			s := strings.Join(l("p", "q", "r", "t")[:many+1], ", ") + " ^= " + x + "; give 1"
			if many == have {
				right(t, def(s))
			} else {
				wrong(t, def(s))
			}
		}
	}
	own := l("bool", "int", "int", "[int]")
	for place := range 4 {
		for s := range someTypes() {
			binds := l("p", "q", "r", "t")
			binds[place] += ": " + s
			text := strings.Join(binds, ", ") + " ^= four(); give 1"
			if s == own[place] {
				right(t, def(text))
				binds[place] = "^" + binds[place]
				right(t, def(strings.Join(binds, ", ")+" = four(); give 1"), s)
			} else {
				wrong(t, def(text))
			}
		}
	}
	right(t, def("^p: int, ^q: int = two(); give 1"), "int")
	right(t, def("^p, q: bool, ^r = four2(); give 1")+" def four2() -> int, bool, int { give 1, true, 2 }", "int")
	right(t, def("p = true; q: bool = p; give if ^p and ^q { give 1 } else { give 2 }"), "bool")
}

// someTypes are types, those of the samples among them.
func someTypes() map[string]bool {
	m := map[string]bool{"stream [int]": true, "[bool]": true}
	for _, types := range samples() {
		for _, s := range types {
			m[s] = true
		}
	}
	return m
}

// P4.1, P4.8: the types of a def are those of its block.
func TestDefs(t *testing.T) {
	for x, xs := range samples() {
		for s := range someTypes() {
			text := "^" + strings.Replace(expr("1"), "-> int", "-> "+s, 1)
			text = strings.Replace(text, "give 1 }", "give "+x+" }", 1)
			if slices.Equal(xs, l(s)) {
				right(t, text)
			} else {
				wrong(t, text)
			}
		}
	}
	right(t, "^def f() -> int, bool { give 1, true }")
	right(t, "def f() -> int, bool ^{ give ^f() }", "int", "bool")
	for _, s := range []string{"^def f() -> int, bool { give true, 1 }", "^def f() -> int, bool { give 1 }", "^def f() -> int { give 1, true }", "^def f() -> int, bool, int { give 1, true }", "^def f() -> int { give g() } def g() -> int, int { give g() }", "def f() -> int, int { give g() } ^def g() -> int, int { give g2() } def g2() -> int { give 1 }", "def f() -> int, int { give g() } def g() -> int, int ^{ give f(), 1 }"} {
		wrong(t, s)
	}
}

// P4.1: the types of declarations, at them and where they are used.
func TestDeclarations(t *testing.T) {
	right(t, "def f(^p: stream [bool]) -> int { q = ^p; r = array(1) { [0] = ^p }[0]; give loop(u := ^p) while true do { v = ^p; next u = ^p; } give(if true { w = ^p; give 1 } else { give 2 }) }", "stream [bool]")
	right(t, def("^p: [int] = ^q; ^q = a; give ^p[0] + ^q[^p[0]]"), "[int]")
	right(t, def("p, ^q = four2(); give -^q")+" def four2() -> bool, int { give true, 1 }", "int")
	right(t, def("give array(1) { ^[k in 0..# - 1] = ^k; [0] = 1; ^[m in 1..2 by 2] = array(^m) { ^[n in 0..1] = ^n + ^m }[^m] }[0]"), "int")
	right(t, def("p = loop(^x := true, y := 1) while ^x do { ^u = ^w; ^w = ^x; next x = ^u; } give(^x); give 1"), "bool")
	right(t, def("p = 1 :: q; ^q: stream int = 2 :: p; give head(^q)"), "stream int")
	// No other nodes have types.
	right(t, "^def f(i: ^int, b: ^[int]) -> ^int, ^stream ^bool { p: ^int ^= 1; q ^= loop(x := 1) while true do { ^next x = 2; } give(1); r ^= array(1) { ^[^0] = 1; [k in ^1..^# - 1] = 2 }; give 1, nil(^bool) }")
}
