package cells_test

import (
	"slices"
	"testing"

	"floodgate/api"
	"floodgate/cells"
)

// P6.3, P6.4, R7: 400 structures, and no more; what makes none can still be done.
func TestMostStructs(t *testing.T) {
	m, gave, _, done, e := cells.Play(api.Memory{}, slices.Repeat(ops(alloc(num(1))), 401))
	if len(m.Structs) != 400 || len(gave) != 400 || gave[399] != ref(399) || done != 400 || e != api.ErrLimit || cells.Check(m) != api.OK {
		t.Error(len(m.Structs), len(gave), done, e)
	}
	for _, n := range []int{0, 1, 100} {
		if after, v, _, e := cells.Do(m, alloc(num(n))); len(after.Structs) > 0 || v != hole() || e != api.ErrLimit {
			t.Error(n, len(after.Structs), v, e)
		}
	}
	for _, x := range []struct {
		op   api.CellOp
		want api.Value
	}{
		{alloc(num(101)), bad(api.BadSize)},
		{alloc(num(-1)), bad(api.BadSize)},
		{alloc(truth(1)), bad(api.BadKind)},
		{alloc(bad(1)), bad(1)},
		{size(ref(399)), num(1)},
		{write(ref(399), num(0), ref(399)), none()},
		{read(ref(399), num(0), 1), hole()},
	} {
		if after, v, _, e := cells.Do(m, x.op); len(after.Structs) != 400 || v != x.want || e != api.OK {
			t.Error(x, len(after.Structs), v, e)
		}
	}
	if after, v, _, e := cells.Do(api.Memory{Structs: m.Structs[:399]}, alloc(num(0))); len(after.Structs) != 400 || v != ref(399) || e != api.OK {
		t.Error(len(after.Structs), v, e)
	}
}

// P6.3, P6.4, R7: 6000 reads that wait, of one cell or of many, and no more, until some are told.
func TestMostReads(t *testing.T) {
	one := memory(values(hole(), hole(), num(1)), values(hole()))
	one.Structs[0].Wait = waits(0, make([]int, 5999)...)
	many := memory(slices.Repeat(lists(make([]api.Value, 100)), 60)...)
	for i := range many.Structs {
		for cell := range 100 {
			many.Structs[i].Wait = append(many.Structs[i].Wait, waits(cell, i)...)
		}
	}
	many.Structs[0].Cells[2] = num(1)
	many.Structs[0].Wait = slices.DeleteFunc(many.Structs[0].Wait, func(r api.Read) bool { return r.Cell == 2 })
	for i, first := range []api.Memory{one, many} {
		full, v, _, e := cells.Do(first, read(ref(1), num(0), 3))
		if v != hole() || e != api.OK || cells.Check(full) != api.OK {
			t.Error(i, v, e)
		}
		for _, op := range ops(read(ref(1), num(0), 3), read(ref(0), num(0), 3), read(ref(0), num(1), 3)) {
			if after, v, l, e := cells.Do(full, op); len(after.Structs) > 0 || v != hole() || len(l) > 0 || e != api.ErrLimit {
				t.Error(i, op, v, e)
			}
			after, gave, l, done, e := cells.Play(first, ops(read(ref(1), num(0), 3), op, size(ref(0))))
			if !sameMemory(after, full) || !slices.Equal(gave, values(hole())) || len(l) > 0 || done != 1 || e != api.ErrLimit {
				t.Error(i, op, gave, l, done, e)
			}
		}
		for _, x := range []struct {
			op   api.CellOp
			want api.Value
		}{{read(ref(0), num(2), 3), num(1)}, {read(ref(0), num(100), 3), bad(api.BadIndex)}, {read(none(), num(0), 3), bad(api.BadIndex)}, {alloc(num(2)), ref(len(first.Structs))}} {
			if _, v, _, e := cells.Do(full, x.op); v != x.want || e != api.OK {
				t.Error(i, x, v, e)
			}
		}
		there := len(slices.DeleteFunc(slices.Clone(full.Structs[1].Wait), func(r api.Read) bool { return r.Cell != 0 }))
		all := append(ops(write(ref(1), num(0), num(8))), slices.Repeat(ops(read(ref(0), num(1), 4)), there+1)...)
		after, gave, l, done, e := cells.Play(full, all)
		if len(l) != there || there < 1 || len(gave) != there+1 || done != there+1 || e != api.ErrLimit || cells.Check(after) != api.OK {
			t.Error(i, len(l), there, len(gave), done, e)
		}
	}
}

// P6.3, R7: a structure of 100 cells; its first and its last one.
func TestMostCells(t *testing.T) {
	m, gave, l, done, e := cells.Play(api.Memory{}, ops(alloc(num(100)), read(ref(0), num(99), 1), write(ref(0), num(99), num(5)), write(ref(0), num(0), num(6)), read(ref(0), num(0), 2), read(ref(0), num(100), 3), read(ref(0), num(-1), 4), write(ref(0), num(100), num(7)), write(ref(0), num(-1), num(7)), size(ref(0))))
	want := values(ref(0), hole(), none(), none(), num(6), bad(api.BadIndex), bad(api.BadIndex), none(), none(), num(100))
	if !slices.Equal(gave, want) || !slices.Equal(l, []api.Told{told(1, num(5))}) || done != 10 || e != api.OK {
		t.Error(gave, l, done, e)
	}
	cell := make([]api.Value, 100)
	cell[0], cell[99] = num(6), num(5)
	if !sameMemory(m, memory(cell)) {
		t.Error(m)
	}
}

// P6.5, P6.6, R7: pictures of 100 values, and of 400 structures of 100 cells each, and one more of each.
func TestMostDrawn(t *testing.T) {
	m := memory(nil)
	p, e := cells.Draw(m, slices.Repeat(values(ref(0)), 100))
	if len(p.Values) != 100 || len(p.Cells) != 1 || e != api.OK || !cells.IsPicture(p) {
		t.Error(len(p.Values), len(p.Cells), e)
	}
	for _, v := range values(hole(), num(1), ref(0), ref(1), num(api.MaxNumber+1)) {
		if p, e := cells.Draw(m, slices.Repeat(values(v), 101)); len(p.Values)+len(p.Cells) > 0 || e != api.ErrArg {
			t.Error(v, len(p.Values), e)
		}
	}
	p.Values = append(p.Values, ref(0))
	if cells.IsPicture(p) {
		t.Error("101 values")
	}
	p, e = cells.Draw(memory(chain(400)...), values(ref(0)))
	if !samePicture(p, picture(values(ref(0)), chain(400)...)) || e != api.OK || !cells.IsPicture(p) {
		t.Error(len(p.Cells), e)
	}
	if cells.IsPicture(picture(values(ref(0)), chain(401)...)) {
		t.Error("401 structures")
	}
	back, e := cells.Draw(memory(chain(400)...), values(ref(399), num(2), ref(398), ref(0)))
	if len(back.Cells) != 400 || !samePicture(back, wantPicture(memory(chain(400)...), values(ref(399), num(2), ref(398), ref(0)))) || e != api.OK {
		t.Error(len(back.Cells), e)
	}
	full := chain(400)
	for i := range full {
		full[i] = append(full[i], slices.Repeat(values(ref(max(i-1, 0))), 99)...)
	}
	p = picture(values(ref(0)), full...)
	if is, e := cells.Below(p, p); !cells.IsPicture(p) || !is || e != api.OK {
		t.Error(is, e)
	}
	q := picture(values(ref(0)), append(slices.Clone(full[:399]), append(slices.Clone(full[399]), num(0)))...)
	if cells.IsPicture(q) {
		t.Error("101 cells")
	}
}
