package cells_test

import (
	"math/rand"
	"slices"
	"testing"

	"floodgate/api"
	"floodgate/cells"
)

// notMemories are memories that are none, each for one reason.
func notMemories() []api.Memory {
	var all []api.Memory
	put := func(wait []api.Read, c ...api.Value) {
		m := memory(values(num(1)), c, values(hole()))
		m.Structs[1].Wait = wait
		all = append(all, m)
	}
	for _, v := range append(notValues(), ref(3), ref(greatest)) {
		put(nil, v)
		put(nil, num(1), hole(), v)
		put(nil, v, hole())
	}
	for _, v := range append(allValues()[1:], ref(0), ref(2)) {
		put(waits(1, 5), hole(), v)
		put(append(waits(0, 5), waits(1, 6)...), hole(), v)
	}
	for _, cell := range []int{-1, 2, 3, least, greatest} {
		put(waits(cell, 0), hole(), hole())
		put(append(waits(1, 0, 7), waits(cell, 0)...), hole(), hole())
	}
	put(waits(0, 0))
	put(nil, make([]api.Value, 101)...)
	put(waits(100, 0), make([]api.Value, 101)...)
	put(waits(0, make([]int, 6001)...), hole())
	spread := memory(slices.Repeat(lists(values(hole())), 7)...)
	for i := range 6 {
		spread.Structs[i].Wait = waits(0, make([]int, 1000)...)
	}
	spread.Structs[6].Wait = waits(0, 8)
	return append(all, spread, api.Memory{Structs: make([]api.Struct, 401)}, memory(slices.Repeat(lists(values(hole())), 500)...), memory(values(ref(1))), memory(values(ref(0)), nil, values(ref(3))))
}

// P6.2, P6.10: memories that are ones, with their holes, both ends of all limits among them.
func TestCheck(t *testing.T) {
	full := memory(slices.Repeat(lists(make([]api.Value, 100)), 400)...)
	full.Structs[3].Wait = waits(99, make([]int, 3000)...)
	full.Structs[399].Wait = waits(0, make([]int, 3000)...)
	odd := memory(values(hole(), num(1)), values(hole()))
	odd.Structs[0].Wait = waits(0, -5, greatest, least, -5)
	for i, x := range []struct {
		m     api.Memory
		holes [][2]int
	}{
		{api.Memory{}, nil},
		{memory(nil), nil},
		{memory(values(ref(0))), nil},
		{memory(allValues(), values(ref(2), ref(0)), values(hole(), ref(1), hole())), [][2]int{{0, 0}, {2, 0}, {2, 2}}},
		{odd, [][2]int{{0, 0}, {1, 0}}},
		{api.Memory{Structs: make([]api.Struct, 400)}, nil},
		{memory(chain(400)...), [][2]int{{399, 0}}},
		{memory(slices.Repeat(values(num(4)), 100)), nil},
	} {
		if e := cells.Check(x.m); e != api.OK {
			t.Error(i, e)
		}
		if l := cells.Holes(x.m); !slices.Equal(l, x.holes) {
			t.Error(i, l)
		}
	}
	if e := cells.Check(full); e != api.OK {
		t.Error("full", e)
	}
	l := cells.Holes(full)
	if len(l) != 40000 || l[0] != [2]int{0, 0} || l[101] != [2]int{1, 1} || l[39999] != [2]int{399, 99} || !slices.IsSortedFunc(l, func(a, b [2]int) int { return slices.Compare(a[:], b[:]) }) {
		t.Error("full", len(l))
	}
}

// P6.2, P6.3, P6.4, P6.5, P6.10, R1, R2: what is no memory comes first, whatever is to be done or drawn; it has no holes.
func TestNotMemories(t *testing.T) {
	for i, m := range notMemories() {
		if e := cells.Check(m); e != api.ErrForm {
			t.Error(i, e)
		}
		if l := cells.Holes(m); len(l) != 0 {
			t.Error(i, l)
		}
		all := ops(api.CellOp{}, alloc(num(1)), alloc(hole()), write(ref(0), num(0), num(1)), read(ref(9), hole(), 1), size(ref(0)))
		for _, op := range all {
			after, gave, l, e := cells.Do(m, op)
			if len(after.Structs) > 0 || gave != hole() || len(l) > 0 || e != api.ErrForm {
				t.Error(i, op, len(after.Structs), gave, l, e)
			}
		}
		for many := range all {
			after, gave, l, done, e := cells.Play(m, all[:many])
			if len(after.Structs) > 0 || len(gave) > 0 || len(l) > 0 || done != 0 || e != api.ErrForm {
				t.Error(i, many, len(after.Structs), gave, l, done, e)
			}
		}
		for _, l := range lists(nil, values(num(1)), values(ref(0)), values(ref(9)), make([]api.Value, 101)) {
			if p, e := cells.Draw(m, l); len(p.Values)+len(p.Cells) > 0 || e != api.ErrForm {
				t.Error(i, p, e)
			}
		}
	}
}

// P6.10: random memories.
func TestHoles(t *testing.T) {
	r := rand.New(rand.NewSource(610))
	for range 500 {
		m := anyMemory(r, 6)
		var want [][2]int
		for s := range 6 {
			for cell := range 6 {
				if s < len(m.Structs) && cell < len(m.Structs[s].Cells) && m.Structs[s].Cells[cell].Kind == api.VHole {
					want = append(want, [2]int{s, cell})
				}
			}
		}
		if l := cells.Holes(m); !slices.Equal(l, want) {
			t.Fatal(m, l, want)
		}
	}
}

// played is what Play answers.
type played struct {
	gave []api.Value
	told []api.Told
	e    api.Errno
	m    api.Memory
}

// play asks whether Play, and Do again and again, answer this, and whether the oracle says so, too.
func play(t *testing.T, first api.Memory, l []api.CellOp, want played) {
	t.Helper()
	m, gave, told, done, e := cells.Play(first, l)
	if !sameMemory(m, want.m) || !slices.Equal(gave, want.gave) || !slices.Equal(told, want.told) || done != len(want.gave) || e != want.e {
		t.Error(l, m, gave, told, done, e, want)
	}
	h := history{first: first}
	m, gave, told = first, nil, nil
	for i, op := range l {
		after, v, now, e := cells.Do(m, op)
		again, hears, f := h.do(op)
		if v != again || !slices.Equal(now, hears) || e != f {
			t.Error("oracle", l, i, v, again, now, hears, e, f)
		}
		if e != api.OK {
			if i != len(want.gave) || e != want.e || len(after.Structs) > 0 || v != hole() || len(now) > 0 {
				t.Error(l, i, after, v, now, e)
			}
			break
		}
		m, gave, told = after, append(gave, v), append(told, now...)
	}
	if !sameMemory(m, want.m) || !slices.Equal(gave, want.gave) || !slices.Equal(told, want.told) {
		t.Error(l, m, gave, told, want)
	}
}

// P6.3, P6.4: what each kind does and gives, with each kind of values.
func TestPlay(t *testing.T) {
	allocs := func(l []api.Value, want []api.Value, m api.Memory) {
		t.Helper()
		var all []api.CellOp
		for _, v := range l {
			all = append(all, alloc(v))
		}
		play(t, api.Memory{}, all, played{want, nil, api.OK, m})
	}
	play(t, api.Memory{}, nil, played{})
	play(t, api.Memory{}, ops(alloc(num(2)), read(ref(0), num(1), 7), write(ref(0), num(1), num(5)), read(ref(0), num(2), 8)),
		played{values(ref(0), hole(), none(), bad(api.BadIndex)), []api.Told{told(7, num(5))}, api.OK, memory(values(hole(), num(5)))})

	allocs(values(num(0), num(1), num(100)), values(ref(0), ref(1), ref(2)), memory(nil, values(hole()), make([]api.Value, 100)))
	allocs(values(num(-1), num(101), num(api.MaxNumber), num(-api.MaxNumber)), slices.Repeat(values(bad(api.BadSize)), 4), api.Memory{})
	allocs(values(truth(0), truth(1), none()), slices.Repeat(values(bad(api.BadKind)), 3), api.Memory{})
	allocs(values(bad(1), bad(2), bad(3), bad(4), bad(5)), values(bad(1), bad(2), bad(3), bad(4), bad(5)), api.Memory{})
	allocs(values(num(0), ref(0)), values(ref(0), bad(api.BadKind)), memory(nil))

	m := memory(nil, values(num(3)), make([]api.Value, 100))
	play(t, m, ops(size(ref(0)), size(ref(1)), size(ref(2)), size(num(2)), size(truth(1)), size(none()), size(bad(3)), size(bad(5))),
		played{values(num(0), num(1), num(100), bad(5), bad(5), bad(5), bad(3), bad(5)), nil, api.OK, m})
}

// P6.3: reads of cells, and of what is none.
func TestReads(t *testing.T) {
	m := memory(append(allValues()[1:], ref(1)), nil)
	last := len(m.Structs[0].Cells)
	for i, v := range m.Structs[0].Cells {
		play(t, m, ops(read(ref(0), num(i), 1)), played{values(v), nil, api.OK, m})
	}
	for _, x := range []struct{ v, index, want api.Value }{
		{ref(0), num(-1), bad(api.BadIndex)},
		{ref(0), num(last), bad(api.BadIndex)},
		{ref(0), num(api.MaxNumber), bad(api.BadIndex)},
		{ref(0), num(-api.MaxNumber), bad(api.BadIndex)},
		{ref(1), num(0), bad(api.BadIndex)},
		{none(), num(0), bad(api.BadIndex)},
		{none(), num(-1), bad(api.BadIndex)},
		{none(), none(), bad(api.BadIndex)},
		{none(), truth(1), bad(api.BadIndex)},
		{none(), ref(0), bad(api.BadIndex)},
		{none(), bad(2), bad(2)},
		{bad(4), num(0), bad(4)},
		{bad(4), bad(2), bad(4)},
		{bad(1), none(), bad(1)},
		{ref(0), bad(5), bad(5)},
		{num(0), bad(1), bad(1)},
		{truth(0), bad(4), bad(4)},
		{num(0), num(0), bad(api.BadKind)},
		{truth(0), num(0), bad(api.BadKind)},
		{num(0), none(), bad(api.BadKind)},
		{ref(0), none(), bad(api.BadKind)},
		{ref(0), truth(0), bad(api.BadKind)},
		{ref(0), ref(1), bad(api.BadKind)},
	} {
		play(t, m, ops(read(x.v, x.index, 1)), played{values(x.want), nil, api.OK, m})
		play(t, m, ops(write(x.v, x.index, num(1))), played{values(none()), nil, api.OK, m})
	}
	free := memory(values(hole(), hole()))
	for _, x := range []struct{ v, index api.Value }{{ref(0), num(2)}, {ref(0), num(-1)}, {ref(0), truth(0)}, {none(), num(0)}, {bad(1), num(0)}, {num(0), num(0)}, {truth(0), num(1)}, {ref(0), bad(1)}} {
		play(t, free, ops(write(x.v, x.index, num(1))), played{values(none()), nil, api.OK, free})
	}
}

// P6.3, P6.4: several readers of a cell, before and behind the write, in the order in which they came; other cells and other structures do not hear of it.
func TestTold(t *testing.T) {
	m := memory(values(hole(), hole()), values(hole()))
	m.Structs[0].Wait = append(waits(1, 30, 20), waits(0, 10)...)
	m.Structs[1].Wait = waits(0, 40)
	all := ops(read(ref(0), num(1), 5), read(ref(0), num(0), 9), read(ref(0), num(1), 30), write(ref(0), num(1), ref(0)), read(ref(0), num(1), 1), read(ref(0), num(0), -2), read(ref(1), num(0), 0), write(ref(1), num(0), bad(2)), write(ref(0), num(0), truth(0)))
	after := memory(values(hole(), ref(0)), values(hole()))
	after.Structs[0].Wait = waits(0, 10, 9)
	after.Structs[1].Wait = waits(0, 40)
	first := []api.Told{told(30, ref(0)), told(20, ref(0)), told(5, ref(0)), told(30, ref(0))}
	play(t, m, all[:4], played{values(hole(), hole(), hole(), none()), first, api.OK, after})
	second := []api.Told{told(40, bad(2)), told(0, bad(2)), told(10, truth(0)), told(9, truth(0)), told(-2, truth(0))}
	play(t, m, all, played{values(hole(), hole(), hole(), none(), ref(0), hole(), hole(), none(), none()), append(first, second...), api.OK, memory(values(truth(0), ref(0)), values(bad(2)))})
	for _, v := range append(allValues()[1:], ref(0), ref(1)) {
		play(t, m, ops(write(ref(1), num(0), v), read(ref(1), num(0), 8)), played{values(none(), v), []api.Told{told(40, v)}, api.OK, api.Memory{Structs: []api.Struct{m.Structs[0], {Cells: values(v)}}}})
	}
}

// P6.3, P6.4, R1: what cannot be done; what was done before it stays done.
func TestPlayErrors(t *testing.T) {
	m := memory(values(hole(), num(1)), nil)
	m.Structs[0].Wait = waits(0, 4)
	first := ops(read(ref(0), num(0), 5), alloc(num(0)), write(ref(0), num(0), num(2)))
	before := played{values(hole(), ref(2), none()), []api.Told{told(4, num(2)), told(5, num(2))}, api.OK, memory(values(num(2), num(1)), nil, nil)}
	behind := ops(size(ref(0)), alloc(num(1)))
	fails := func(e api.Errno, l ...api.CellOp) {
		t.Helper()
		for _, op := range l {
			play(t, m, append(ops(op), behind...), played{nil, nil, e, m})
			want := before
			want.e = e
			play(t, m, slices.Concat(first, ops(op), behind), want)
		}
	}
	fails(api.ErrTwice, write(ref(0), num(1), num(1)), write(ref(0), num(1), none()))
	for _, v := range append(notValues(), hole(), ref(3), ref(greatest)) {
		fails(api.ErrArg, alloc(v), size(v), read(v, num(0), 0), read(ref(0), v, 0), read(none(), v, 0), read(bad(1), v, 0), write(v, num(0), num(0)), write(ref(0), v, num(0)), write(none(), v, num(0)), write(ref(0), num(0), v), write(ref(0), num(1), v), write(none(), bad(1), v), write(v, v, v))
	}
	for _, kind := range []uint8{0, 5, 6, 255} {
		fails(api.ErrArg, api.CellOp{Kind: kind, V: ref(0), Index: num(0), Value: num(0)}, api.CellOp{Kind: kind})
	}
	again := append(first, read(ref(0), num(0), 7), alloc(num(1)), read(ref(3), num(0), 3), write(ref(0), num(0), num(2)), size(ref(0)))
	after := memory(values(num(2), num(1)), nil, nil, values(hole()))
	after.Structs[3].Wait = waits(0, 3)
	play(t, m, again, played{append(before.gave, num(2), ref(3), hole()), before.told, api.ErrTwice, after})
}

// P6.3: fields that are not mentioned do not matter.
func TestOtherFields(t *testing.T) {
	m := memory(values(hole(), num(3)))
	for _, v := range append(notValues(), hole(), ref(5), none()) {
		for _, x := range []struct {
			op   api.CellOp
			want api.Value
		}{
			{api.CellOp{Kind: api.CellAlloc, V: num(1), Index: v, Value: v, Reader: 3}, ref(1)},
			{api.CellOp{Kind: api.CellSize, V: ref(0), Index: v, Value: v, Reader: 3}, num(2)},
			{api.CellOp{Kind: api.CellRead, V: ref(0), Index: num(1), Value: v}, num(3)},
			{api.CellOp{Kind: api.CellWrite, V: ref(0), Index: num(0), Value: num(1), Reader: v.N}, none()},
		} {
			if _, gave, _, e := cells.Do(m, x.op); gave != x.want || e != api.OK {
				t.Error(x.op, gave, e)
			}
		}
	}
}
