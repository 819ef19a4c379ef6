package cells_test

import (
	"math/rand"
	"testing"

	"floodgate/api"
	"floodgate/cells"
)

// operands are how many operands the operations have.
func operands() map[string]int {
	return map[string]int{"add": 2, "sub": 2, "mul": 2, "div": 2, "mod": 2, "lt": 2, "le": 2, "eq": 2, "neg": 1, "not": 1}
}

// P6.1: results, both ends of the integers and those one beyond them, divisions with each sign and by 0, faults.
func TestPrim(t *testing.T) {
	const most = api.MaxNumber
	for _, x := range []struct {
		name string
		l    []api.Value
		want api.Value
	}{
		{"div", values(num(-7), num(2)), num(-3)},
		{"mod", values(num(-7), num(2)), num(-1)},
		{"add", values(num(1000000000), num(1)), bad(api.BadRange)},
		{"lt", values(truth(1), num(1)), bad(api.BadKind)},
		{"add", values(num(20), num(3)), num(23)},
		{"add", values(num(most-1), num(1)), num(most)},
		{"add", values(num(-most), num(most)), num(0)},
		{"add", values(num(-most), num(-1)), bad(api.BadRange)},
		{"add", values(num(-most), num(-most)), bad(api.BadRange)},
		{"add", values(num(most), num(most)), bad(api.BadRange)},
		{"sub", values(num(20), num(23)), num(-3)},
		{"sub", values(num(-most+1), num(1)), num(-most)},
		{"sub", values(num(-most), num(1)), bad(api.BadRange)},
		{"sub", values(num(most), num(-1)), bad(api.BadRange)},
		{"sub", values(num(0), num(-most)), num(most)},
		{"mul", values(num(-20), num(3)), num(-60)},
		{"mul", values(num(most), num(-1)), num(-most)},
		{"mul", values(num(31623), num(31623)), bad(api.BadRange)},
		{"mul", values(num(31622), num(31622)), num(999950884)},
		{"mul", values(num(-most), num(most)), bad(api.BadRange)},
		{"mul", values(num(-most), num(-most)), bad(api.BadRange)},
		{"mul", values(num(500000000), num(-2)), num(-most)},
		{"mul", values(num(333333333), num(3)), num(999999999)},
		{"mul", values(num(333333334), num(3)), bad(api.BadRange)},
		{"div", values(num(7), num(2)), num(3)},
		{"div", values(num(7), num(-2)), num(-3)},
		{"div", values(num(-7), num(-2)), num(3)},
		{"div", values(num(-1), num(2)), num(0)},
		{"div", values(num(-most), num(-1)), num(most)},
		{"div", values(num(0), num(-5)), num(0)},
		{"div", values(num(5), num(0)), bad(api.BadZero)},
		{"div", values(num(0), num(0)), bad(api.BadZero)},
		{"div", values(num(-most), num(0)), bad(api.BadZero)},
		{"mod", values(num(7), num(2)), num(1)},
		{"mod", values(num(7), num(-2)), num(1)},
		{"mod", values(num(-7), num(-2)), num(-1)},
		{"mod", values(num(-8), num(2)), num(0)},
		{"mod", values(num(-most), num(most)), num(0)},
		{"mod", values(num(-most+1), num(most)), num(-most + 1)},
		{"mod", values(num(-5), num(0)), bad(api.BadZero)},
		{"lt", values(num(-1), num(0)), truth(1)},
		{"lt", values(num(0), num(0)), truth(0)},
		{"lt", values(num(1), num(0)), truth(0)},
		{"le", values(num(-1), num(0)), truth(1)},
		{"le", values(num(0), num(0)), truth(1)},
		{"le", values(num(1), num(0)), truth(0)},
		{"eq", values(num(-most), num(-most)), truth(1)},
		{"eq", values(num(-most), num(most)), truth(0)},
		{"eq", values(truth(0), truth(0)), truth(1)},
		{"eq", values(truth(1), truth(1)), truth(1)},
		{"eq", values(truth(1), truth(0)), truth(0)},
		{"eq", values(truth(1), num(1)), bad(api.BadKind)},
		{"eq", values(num(0), truth(0)), bad(api.BadKind)},
		{"eq", values(none(), none()), bad(api.BadKind)},
		{"eq", values(ref(3), ref(3)), bad(api.BadKind)},
		{"neg", values(num(-most)), num(most)},
		{"neg", values(num(most)), num(-most)},
		{"neg", values(num(0)), num(0)},
		{"neg", values(truth(1)), bad(api.BadKind)},
		{"not", values(truth(0)), truth(1)},
		{"not", values(truth(1)), truth(0)},
		{"not", values(num(1)), bad(api.BadKind)},
		{"not", values(ref(greatest)), bad(api.BadKind)},
		{"div", values(truth(0), num(0)), bad(api.BadKind)},
		{"div", values(num(1), truth(0)), bad(api.BadKind)},
		{"mod", values(none(), num(0)), bad(api.BadKind)},
		{"add", values(truth(1), truth(1)), bad(api.BadKind)},
		{"le", values(truth(0), truth(1)), bad(api.BadKind)},
	} {
		if got, e := cells.Prim(x.name, x.l); got != x.want || e != api.OK {
			t.Error(x.name, x.l, got, e)
		}
		if got := wantPrim(x.name, x.l); got != x.want {
			t.Error("oracle", x.name, x.l, got)
		}
	}
}

// P6.1, P6.11: each operation with each kind of operands, holes and VBads in each place.
func TestPrimKinds(t *testing.T) {
	all := append(allValues(), ref(0), ref(5), ref(greatest))
	for name, many := range operands() {
		if got := cells.Operands(name); got != many {
			t.Error(name, got)
		}
		for _, a := range all {
			for _, b := range all {
				l := values(a, b)[:many]
				got, e := cells.Prim(name, l)
				if want := wantPrim(name, l); got != want || e != api.OK {
					t.Error(name, l, got, want, e)
				}
			}
		}
	}
	for _, x := range []struct{ a, b, want api.Value }{
		{hole(), hole(), hole()},
		{hole(), bad(3), hole()},
		{bad(3), hole(), hole()},
		{hole(), none(), hole()},
		{bad(3), bad(1), bad(3)},
		{num(1), bad(1), bad(1)},
		{bad(5), num(0), bad(5)},
		{none(), bad(2), bad(2)},
		{num(1), none(), bad(api.BadKind)},
	} {
		for name, many := range operands() {
			if many < 2 {
				continue
			}
			if got, e := cells.Prim(name, values(x.a, x.b)); got != x.want || e != api.OK {
				t.Error(name, x, got, e)
			}
		}
	}
}

// P6.1: random integers, of all sizes.
func TestPrimRandom(t *testing.T) {
	r := rand.New(rand.NewSource(61))
	integer := func() api.Value {
		most := []int{3, 40, 40000, api.MaxNumber}[r.Intn(4)]
		return num(r.Intn(2*most+1) - most)
	}
	for range 3000 {
		for name, many := range operands() {
			l := values(integer(), integer())[:many]
			if got, e := cells.Prim(name, l); got != wantPrim(name, l) || e != api.OK {
				t.Fatal(name, l, got, e)
			}
		}
	}
}

// P6.1, R1, R8: no such operation, then another number of operands, then operands that are no values, wherever they stand.
func TestPrimErrors(t *testing.T) {
	several := [][]api.Value{nil, {}, values(num(1)), values(num(1), num(2)), values(num(1), num(2), num(3)), make([]api.Value, 50)}
	for _, v := range notValues() {
		several = append(several, values(v), values(v, num(1)), values(num(1), v), values(hole(), v), values(bad(1), v), values(v, v), values(v, num(1), v))
	}
	nothing := func(name string, l []api.Value, want api.Errno) {
		t.Helper()
		if got, e := cells.Prim(name, l); got != hole() || e != want {
			t.Error(name, l, got, e)
		}
	}
	for _, l := range several {
		for _, name := range []string{"", "ADD", "Add", "add ", "ad", "adds", "and", "or", "ne", "gt", "ge", "+", "true", "\x00", "\xff"} {
			nothing(name, l, api.ErrName)
			if got := cells.Operands(name); got != 0 {
				t.Error(name, got)
			}
		}
		for name, many := range operands() {
			if len(l) != many {
				nothing(name, l, api.ErrArg)
			} else if !wantValues(greatest, l...) {
				nothing(name, l, api.ErrForm)
			}
		}
	}
}
