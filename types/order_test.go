package types_test

import (
	"testing"

	"floodgate/api"
)

// P4.1: the order of finding: of several nodes at which something is wrong the marked one is the first.
func TestFirstWrong(t *testing.T) {
	for _, s := range []string{
		// by numbers
		"p = 1 ^+ true; q = -true; give 1",
		"p = -(1 ^+ true); give 1",
		"p = (^-true) + -false; give 1",
		"p = head(if not b { give ^-b } else { give -true }); give 1",
		"p, q ^= 1; r = -true; give 1",
		"p = 1; q = true; r = q ^+ p; u = -q; give 1",
		// what is used before it stands is done before
		"p = q + true; q = ^not 1; give 1",
		"p = true + q; q = ^not 1; give 1",
		"p = (^-true) + q; q = not 1; give 1",
		"p = q ^+ true; q = 1; r = not 1; give 1",
		"p = q; w = -true; q = ^not 1; give 1",
		"w = ^-true; p = q; q = not 1; give 1",
		// but nothing else is
		"p = q; r = ^-true; u = not 1; q = 1; give 1",
		"p = q; r = ^-q; q = true; u = not 1; give 1",
		"p = ^-q; q = r; r = true; u = not 1; give 1",
		// what it needs itself is done before it, too, in its place
		"p = -q; q = r; r = ^not 1; give 1",
		"p = q; q = r + true; r = u; u = ^not 1; give 1",
		"p = q; q = (^-true) + r; r = not 1; give 1",
		"p = q; q = r + -true; r = ^not 1; give 1",
		"p = q; q = r + ^-true; r = 1; u = not 1; give 1",
		// how many types there are is looked at as soon as a bind is needed
		"p = q; w = -true; q, r ^= 1; give 1",
		"p = r; w = -true; q, r ^= mix(); give 1",
		"p = -q; q, r ^= 1; give 1",
		"p = q; w = -true; q, r: bool ^= 1; give 1",
		"p = q; w = -true; q ^= two(); give 1",
		"w = ^-true; q, r = 1; p = q; give 1",
		"q, r ^= 1; p = q; w = -true; give 1",
		// types of their own in the stmt's own turn
		"p = q; w = ^-true; q, r: bool = two(); give 1",
		"p = q; w = -1; q, r: bool ^= two(); give 1",
		"p = q; q, r: bool ^= two(); w = -true; give 1",
		"p: bool ^= 1; w = -true; give 1",
		"w = ^-true; p: bool = 1; give 1",
		"q: int ^= p; p = true; r: int = false; give 1",
		// a bind with a type of its own needs nothing, and has this type
		"p = q; w = ^-true; q: int = not 1; give 1",
		"p = -q; w = 1; q: int = ^not 1; give 1",
		"p = ^-q; q: bool = not 1; give 1",
		"p = r; w = ^-true; q, r: int = 1; give 1",
		"p = r; w = -1; q, r: int ^= 1; give 1",
		"q: int = p; w = -q; p: int ^= true; give 1",
	} {
		wrong(t, def(s))
	}
}

// P4.1: the order of finding in blocks, loops, streams and arrays, and what they use from around them.
func TestFirstWrongInside(t *testing.T) {
	for _, s := range []string{
		"p = if b { q = r; give q } else { give -true }; r = ^not 1; give 1",
		"p = if b { q = r; u = ^-true; r = 1; give q } else { give 1 }; give 1",
		"p = if b { q = -r; r = ^not 1; give q } else { give 1 }; give 1",
		"p = if b { give q } else { give -true }; q = if b { give r } else { give 1 }; r = ^not 1; give 1",
		"p = if b { give q } else { give ^-true }; q = if b { give 1 } else { give 1 }; r = not 1; give 1",
		// a block that is needed is done as a whole, types of their own and all
		"p = q; w = -true; q = if b { v: bool ^= 1; give 2 } else { give 3 }; give 1",
		"p = q; w = -true; q = if b { u, v ^= 1; give 2 } else { give 3 }; give 1",
		"p = q; w = -true; q = if b { give 1 } else ^{ give two(), 1 }; give 1",
		"p = q; w = -true; q = ^if b { v: int = 1; give 2 } else { give b }; give 1",
		"p = q; w = ^-true; q = if b { v: int = 1; give v } else { give 2 }; r = not 1; give 1",
		"p = loop(x := ^-true) while b do { u = not x; } give(q); q = not 1; give 1",
		"p = loop(x := 1) while b do { q = r; u = -true; r = ^not x; } give(x); give 1",
		"p = loop(x := 1) while q do { u = -true; } give(x); q = ^not 1; give 1",
		"p = loop(x := q) while -b do { u = 1; } give(x); q = ^not 1; give 1",
		"p = loop(x := q) while ^-b do { u = not 1; } give(x); q = 1; give 1",
		"p = loop(x := 1) while b do { u = -q; q = ^not x; next x = q; } give(x); give 1",
		"p = ^loop(x := 1) while x do { } give(1); w = -true; give 1",
		"p = loop(x := 1) while x do { w = ^-true; } give(1); give 1",
		"p = loop(^x := two()) while x do { w = -true; } give(1); give 1",
		"p = loop(x := 1) while b do { ^next x = b; } give(-true); give 1",
		"p: [int] = array(i) { [0] = p[1]; [1] = ^not p }; w = -true; give 1",
		"p = array(1) { [0] = q; [1] = -true }; q = ^not 1; give 1",
		"p: stream int = q :: p; w = -true; q = ^not 1; give 1",
		"p: stream int = q :: ^tail(i); q = 1; w = -true; give 1",
	} {
		wrong(t, def(s))
	}
}

// P4.1: the order of finding, over items: calls need nothing that is still to be found, and so nothing of another item is done before.
func TestFirstWrongItem(t *testing.T) {
	for _, s := range []string{
		"def f() -> int { give ^-true } def g() -> int { give -true }",
		"def f() -> int { give g() } def g() -> int { give ^-true }",
		"^def f() -> int { give g() } def g() -> bool { give -true }",
		"def f() -> int { give ^-g() } def g() -> bool { give 1 }",
		"def f() -> int { give -g() } ^def g() -> int { give true }",
		"def f() -> int { p = q; q = g(); give p } def g() -> int { p = q; q = ^not 1; give p }",
		"^def f() -> int { give true } def g() -> int { p, q = 1; give 1 }",
		"def f() -> int { give 1 } def g() -> int { p, q ^= 1; give 1 } def h() -> int { give true }",
	} {
		wrong(t, s)
	}
}

// P4.1: a type that is needed while it is being found, directly and over others.
func TestKnots(t *testing.T) {
	for _, s := range []string{
		"p = 1 :: ^p; give 1",
		"p = 1 :: tail(^p); give 1",
		"p = head(^p) :: p; give 1",
		"p = 1 :: 2 :: ^p; give 1",
		"p, q = if b { give 1 :: ^q, 2 :: p } else { give s, s }; give 1",
		"p = array(2, 2) { [0] = 1; [1] = ^p[0] }; give 1",
		"p = array(2, 2) { [0] = ^p[1]; [1] = 1 }; give 1",
		"p = array(2) { [k in 0..1] = ^p[k] }; give 1",
		// even where the type does not depend on it
		"p = array(1) { [0] = size(^p) }; give 1",
		"p = nil(int) :: if empty(^p) { give nil(stream int) } else { give nil(stream int) }; give 1",
		"p = array(1) { [0] = if b { q = ^p; give 1 } else { give 2 } }; give 1",
		// over others, in the order of the stmts, or from elsewhere
		"p = 1 :: ^q; q = 2 :: p; give head(p)",
		"w = head(p); p = 1 :: q; q = 2 :: ^p; give 1",
		"w = head(q); p = 1 :: ^q; q = 2 :: p; give 1",
		"p = 1 :: ^q; q = 2 :: r; r = 3 :: p; give 1",
		"w = q; p = 1 :: ^q; q = 2 :: r; r = 3 :: p; give 1",
		"w = r; p = 1 :: q; q = 2 :: ^r; r = 3 :: p; give 1",
		"w = p; p = 1 :: u; u = 2 :: q; q = 3 :: ^u; give 1",
		"p, q = if b { give 1, 2 :: ^r } else { give 1, s }; r = p :: s; give 1",
		"p = array(1) { [0] = ^q }; q = array(1) { [0] = size(p) }; give 1",
		"p = 1 :: if b { q = ^p; give q } else { give s }; give 1",
		"p = 1 :: if b { q = 1 :: ^r; r = 2 :: q; give q } else { give s }; give 1",
		"p = 1 :: if b { q = ^r; give q } else { give s }; r = 2 :: p; give 1",
		"p = loop(x := 1 :: ^p) while b do { } give(x); give 1",
		"p = loop(x := s) while b do { q = 1 :: ^r; r = 2 :: q; next x = q; } give(x); give 1",
		// before other errors, and behind them
		"p = (^-true) :: p; give 1",
		"p = (^p) :: -true; give 1",
		"p = ^p :: (not 1) :: p; give 1",
		"w = p; p = (^-true) :: q; q = (not 1) :: p; give 1",
		"w = p; p = 1 :: q; q = (^not 1) :: p; give 1",
		"w = p; p = 1 :: q + true; q = 2 :: ^p; give 1",
		"p, q = 1 :: ^p; give 1",
		"w = ^-true; p = 1 :: p; give 1",
	} {
		wrong(t, def(s))
	}
}

// P4.1, P4.6: a type of its own, of any of those that need each other, ends this.
func TestKnotsEnded(t *testing.T) {
	for _, s := range []string{
		"^p: stream int = 1 :: ^p; give 1",
		"p: stream int = 1 :: ^tail(^p); give 1",
		"p: stream int = 1 :: ^q; ^q = 2 :: ^p; give 1",
		"^p = 1 :: ^q; q: stream int = 2 :: ^p; give 1",
		"^p = 1 :: ^q; ^q = 2 :: ^r; r: stream int = 3 :: ^p; give 1",
		"^w = ^p; p: stream int = 1 :: ^q; ^q = 2 :: ^r; ^r = 3 :: ^p; give 1",
		"p: stream int, ^q = if b { give 1 :: ^p, 2 :: ^p } else { give s, s }; give 1",
		"p: stream int = loop(x := 1 :: ^p) while b do { } give(^x); give 1",
		"p: stream int = 1 :: if b { ^q = ^p; give ^q } else { give s }; give 1",
		"p: stream int = 1 :: if b { ^q = ^r; give ^q } else { give s }; ^r = 2 :: ^p; give 1",
	} {
		right(t, def(s), "stream int")
	}
	right(t, def("p: [int] = array(2, 2) { [0] = ^p[1]; [1] = ^q[0] }; ^q = array(1) { [0] = ^p[0] + size(^p) }; give 1"), "[int]")
	// A bind beside it that has none is not ended.
	wrong(t, def("p: stream int, q = if b { give 1 :: p, 2 :: ^q } else { give s, s }; give 1"))
	// Another type is one, too: it is compared in the stmt's own turn.
	wrong(t, def("p: stream bool ^= 1 :: q; q = s; give 1"))
	wrong(t, def("p: stream bool = 1 ^:: p; give 1"))
}

// P4.1, R1: names that have an error, with its node, before types that are wrong at an earlier one.
func TestNamesFirst(t *testing.T) {
	for s, e := range map[string]api.Errno{
		"p = -true; give ^q":               api.ErrName,
		"p = -true; give ^g(1)":            api.ErrName,
		"p = -true; ^i = 1; give 1":        api.ErrTwice,
		"w = -true; p ^= q; q = p; give 1": api.ErrState,
		"w = -true; p ^= -p; give 1":       api.ErrState,
		"p = 1 :: p; q ^= q; give 1":       api.ErrState,
	} {
		wrongWith(t, def(s), e)
	}
}

// P4.1, R7: types of 20 and of 21 parts, at each node that can be the first one whose type is too deep.
func TestParts(t *testing.T) {
	d19, d20, d21 := deep(19), deep(20), deep(21)
	for _, s := range []string{
		"def f(^p: " + d20 + ") -> " + d20 + " { ^q: " + d20 + " = ^p; ^r = q; give ^f(^r) }",
		"def f(p: " + d19 + ") -> " + d20 + " { ^q = ^array(1) { [0] = p }; give if true ^{ give ^q } else { give loop(^x := ^q) while true do { } ^give(^x) } }",
	} {
		right(t, s, d20)
	}
	right(t, "def f() -> stream "+d19+" { ^p = ^nil("+d19+"); ^q: stream "+d19+" = head(p) ^:: ^p; give ^q }", "stream "+d19)
	for _, s := range []string{
		"def f(^p: " + d21 + ") -> int { give 1 }",
		"def f(p: int, ^q: stream " + d20 + ") -> int { give -true }",
		"def f(p: " + d20 + ", ^q: " + d21 + ", r: " + d21 + ") -> int { give 1 }",
		"def f() -> int { p = ^nil(" + d20 + "); give 1 }",
		"def f() -> int { p = empty(^nil(" + d21 + ")); give 1 }",
		"def f(p: " + d20 + ") -> int { q = ^array(1) { [0] = p }; give 1 }",
		"def f(p: " + d20 + ") -> int { q = ^array(1) { [k in 0..1] = p }[0]; give 1 }",
		"def f() -> int { ^p: " + d21 + " = 1; give 1 }",
		"def f() -> int { ^p: " + d21 + " = f(1); give 1 }",
		"def f() -> int { q = ^p; p: " + d21 + " = 1; give 1 }",
		"def f() -> int { q, ^p: " + d21 + " = 1; give 1 }",
		"def f() -> int { r = q; q, p: " + d21 + " ^= 1; give 1 }",
		"^def f() -> " + d21 + " { give 1 }",
		"^def f() -> int, " + d21 + " { give 1, 1 }",
		"def f() -> " + d21 + " { give ^f() }",
		"def f() -> int { p = ^g(); give 1 } def g() -> " + d21 + " { give 1 }",
		"def f() -> int { p, q = ^g(); give 1 } def g() -> int, " + d21 + " { give 1 }",
		"def f() -> int { p = ^g(1); give 1 } def g(q: " + d21 + ") -> int { give 1 }",
	} {
		wrong(t, s)
	}
}
