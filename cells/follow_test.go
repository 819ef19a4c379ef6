package cells_test

import (
	"maps"
	"math/rand"
	"slices"
	"testing"

	"floodgate/api"
	"floodgate/cells"
)

// P6.3, P6.4: random things that are done to random memories.
func TestPlayRandom(t *testing.T) {
	r := rand.New(rand.NewSource(63))
	count := map[api.Errno]int{}
	for range 3000 {
		m := anyMemory(r, 4)
		h := history{first: m}
		var l []api.CellOp
		want := played{m: m}
		for range r.Intn(14) {
			op := anyOp(r, h.memory())
			l = append(l, op)
			v, hears, e := h.do(op)
			want.m = h.memory()
			if want.e = e; e != api.OK {
				break
			}
			want.gave, want.told = append(want.gave, v), append(want.told, hears...)
		}
		for len(l) > 0 && r.Intn(2) == 0 && want.e != api.OK {
			l = append(l, anyOp(r, m)) // nothing behind an error is done
		}
		play(t, m, l, want)
		count[want.e]++
		if t.Failed() {
			return
		}
	}
	if count[api.OK] < 300 || count[api.ErrTwice] < 300 || count[api.ErrArg] < 300 {
		t.Error(count)
	}
}

// P6.11: operations with holes and VBads give one of them, or a hole; with integers and booleans they give the same again.
func TestStrict(t *testing.T) {
	r := rand.New(rand.NewSource(611))
	for range 20000 {
		l := values(anyValue(r, 2), anyValue(r, 2))
		for name, many := range operands() {
			l := l[:many]
			v, e := cells.Prim(name, l)
			again, f := cells.Prim(name, slices.Clone(l))
			if v != again || e != api.OK || f != api.OK {
				t.Fatal(name, l, v, again, e, f)
			}
			odd := slices.ContainsFunc(l, func(v api.Value) bool { return v.Kind == api.VHole || v.Kind == api.VBad })
			if odd && v != hole() && !slices.Contains(l, v) {
				t.Fatal(name, l, v)
			}
		}
	}
}

// heard is what the readers have been given, or told, and the readers who wait.
func heard(l []api.CellOp, gave []api.Value, told []api.Told) map[int]api.Value {
	m := map[int]api.Value{}
	for i, op := range l {
		if op.Kind == api.CellRead {
			m[op.Reader] = gave[i]
		}
	}
	for _, x := range told {
		m[x.Reader] = x.V
	}
	return m
}

// cellsOf are the cells of a memory.
func cellsOf(m api.Memory) [][]api.Value {
	var l [][]api.Value
	for _, s := range m.Structs {
		l = append(l, s.Cells)
	}
	return l
}

// P6.12: what can be done without an error can be done in any order, with the same cells, and the same value for each reader.
func TestAnyOrder(t *testing.T) {
	r := rand.New(rand.NewSource(612))
	tellers := 0
	for range 1500 {
		m := memory(slices.Repeat(lists(make([]api.Value, 1+r.Intn(3))), 1+r.Intn(3))...)
		if r.Intn(2) == 0 {
			m = memory(cellsOf(anyMemory(r, 4))...)
		}
		h := history{first: m}
		for range r.Intn(70) {
			op := anyOp(r, m)
			op.Reader = len(h.done)
			if op.Kind != api.CellAlloc {
				h.do(op) // which is forgotten if it has an error
			}
		}
		after, gave, told, _, e := cells.Play(m, h.done)
		if e != api.OK {
			t.Fatal(h, e)
		}
		tellers += len(told)
		want := heard(h.done, gave, told)
		for range 4 {
			l := slices.Clone(h.done)
			r.Shuffle(len(l), func(i, k int) { l[i], l[k] = l[k], l[i] })
			other, gave, told, many, e := cells.Play(m, l)
			if e != api.OK || many != len(l) || !slices.EqualFunc(cellsOf(other), cellsOf(after), slices.Equal[[]api.Value]) {
				t.Fatal(h, l, other, after, e)
			}
			if got := heard(l, gave, told); !maps.Equal(got, want) {
				t.Fatal(h, l, got, want)
			}
		}
	}
	if tellers < 500 {
		t.Error(tellers)
	}
}

// deed is something that is done to the structure that an earlier deed made.
type deed struct {
	op       api.CellOp
	of, with int // which deeds made the structure, and the one that is written; -1: none is written
}

// deeds are random allocations, and writes and reads of what they make.
func deeds(r *rand.Rand) []deed {
	var l []deed
	var made []int
	written := map[[2]int]bool{}
	for range r.Intn(25) {
		if len(made) == 0 || r.Intn(4) == 0 {
			made = append(made, len(l))
			l = append(l, deed{op: alloc(num(r.Intn(4)))})
			continue
		}
		d := deed{of: made[r.Intn(len(made))], with: -1}
		cell := r.Intn(4)
		switch {
		case r.Intn(3) == 0 || written[[2]int{d.of, cell}]:
			d.op = read(none(), num(cell), len(l))
		default:
			written[[2]int{d.of, cell}] = true
			d.op = write(none(), num(cell), num(r.Intn(3)))
			if r.Intn(2) == 0 {
				d.with = made[r.Intn(len(made))]
			}
		}
		l = append(l, d)
	}
	return l
}

// playDeeds does deeds in an order in which each comes behind those that it needs, and draws what the allocations gave.
func playDeeds(t *testing.T, r *rand.Rand, l []deed) (api.Picture, map[int]api.Value) {
	t.Helper()
	m := api.Memory{}
	gave := map[int]api.Value{}
	hears := map[int]api.Value{}
	for len(gave) < len(l) {
		i := r.Intn(len(l))
		d := l[i]
		_, done := gave[i]
		v, of := gave[d.of]
		w, with := gave[max(d.with, 0)]
		if done || d.op.Kind != api.CellAlloc && (!of || d.with >= 0 && !with) {
			continue
		}
		if d.op.Kind != api.CellAlloc {
			d.op.V = v
			if d.with >= 0 {
				d.op.Value = w
			}
		}
		after, v, told, e := cells.Do(m, d.op)
		if e != api.OK {
			t.Fatal(l, d, e)
		}
		m, gave[i] = after, v
		if d.op.Kind == api.CellRead {
			hears[i] = v
		}
		for _, x := range told {
			hears[x.Reader] = x.V
		}
	}
	var drawn []api.Value
	for i, d := range l {
		if d.op.Kind == api.CellAlloc {
			drawn = append(drawn, gave[i])
		}
	}
	p, e := cells.Draw(m, drawn)
	if e != api.OK {
		t.Fatal(l, e)
	}
	// A reader who heard of a structure heard of another number in another order.
	for i, v := range hears {
		if v.Kind == api.VRef {
			hears[i] = ref(slices.Index(drawn, v))
		}
	}
	return p, hears
}

// P6.12: with allocations, too, the picture is the same.
func TestAnyOrderOfAllocs(t *testing.T) {
	r := rand.New(rand.NewSource(6120))
	structs := 0
	for range 1500 {
		l := deeds(r)
		want, hears := playDeeds(t, r, l)
		structs += len(want.Cells)
		for range 3 {
			if p, h := playDeeds(t, r, l); !samePicture(p, want) || !maps.Equal(h, hears) {
				t.Fatal(l, p, want, h, hears)
			}
		}
	}
	if structs < 3000 {
		t.Error(structs)
	}
}

// P6.13: whatever is done the picture is greater, a cell that is written keeps its value, and each read that waits is told just once, or waits.
func TestOnlyMore(t *testing.T) {
	r := rand.New(rand.NewSource(613))
	for range 1500 {
		m := anyMemory(r, 4)
		var l []api.Value
		for range r.Intn(4) {
			l = append(l, anyValue(r, len(m.Structs)))
		}
		for i := range m.Structs {
			l = append(l, ref(i))
		}
		waiting := map[int]int{} // how often which reader waits
		for _, s := range m.Structs {
			for _, w := range s.Wait {
				waiting[w.Reader]++
			}
		}
		for step := range r.Intn(15) {
			op := anyOp(r, m)
			op.Reader = 1000 + step
			after, v, told, e := cells.Do(m, op)
			if e != api.OK {
				continue
			}
			before, _ := cells.Draw(m, l)
			then, _ := cells.Draw(after, l)
			if is, e := cells.Below(before, then); !is || e != api.OK {
				t.Fatal(m, op, e)
			}
			for i, s := range m.Structs {
				for cell, w := range s.Cells {
					if w != hole() && after.Structs[i].Cells[cell] != w {
						t.Fatal(m, op, i, cell)
					}
				}
			}
			if op.Kind == api.CellRead && v == hole() {
				waiting[op.Reader]++
			}
			for _, x := range told {
				waiting[x.Reader]--
			}
			still := map[int]int{}
			for _, s := range after.Structs {
				for _, w := range s.Wait {
					still[w.Reader]++
				}
			}
			maps.DeleteFunc(waiting, func(_, n int) bool { return n == 0 })
			if !maps.Equal(still, waiting) {
				t.Fatal(m, op, still, waiting)
			}
			m = after
		}
	}
}

// P6.14: below is an order, also of greater pictures.
func TestBelowOrder(t *testing.T) {
	r := rand.New(rand.NewSource(614))
	below := func(a, b api.Picture) bool {
		is, e := cells.Below(a, b)
		if e != api.OK {
			t.Fatal(a, b, e)
		}
		return is
	}
	for range 2000 {
		a := anyPicture(t, r)
		b := filled(t, r, a)
		c := filled(t, r, b)
		if !below(a, a) || !below(a, b) || !below(b, c) || !below(a, c) {
			t.Fatal(a, b, c)
		}
		for _, x := range [][2]api.Picture{{a, b}, {b, c}, {a, c}} {
			if below(x[1], x[0]) != samePicture(x[0], x[1]) {
				t.Fatal(x)
			}
		}
	}
}

// P6.15: the picture of a picture is it itself; other numbers, and structures that nothing reaches, are not seen.
func TestDrawn(t *testing.T) {
	r := rand.New(rand.NewSource(615))
	for range 3000 {
		p := anyPicture(t, r)
		m, e := cells.Memory(p)
		if e != api.OK {
			t.Fatal(p, e)
		}
		if q, e := cells.Draw(m, p.Values); !samePicture(p, q) || e != api.OK {
			t.Fatal(p, q, e)
		}
		to := r.Perm(len(p.Cells) + 3)
		moved := func(l []api.Value) []api.Value {
			l = slices.Clone(l)
			for i, v := range l {
				if v.Kind == api.VRef {
					l[i] = ref(to[v.N])
				}
			}
			return l
		}
		other := make([][]api.Value, len(to))
		for i, n := range to {
			other[n] = values(anyValue(r, len(to)))
			if i < len(p.Cells) {
				other[n] = moved(p.Cells[i])
			}
		}
		if q, e := cells.Draw(memory(other...), moved(p.Values)); !samePicture(p, q) || e != api.OK {
			t.Fatal(p, other, q, e)
		}
	}
}

// P6.16: streams that are built, drawn together or each alone.
func TestBuilt(t *testing.T) {
	r := rand.New(rand.NewSource(616))
	for range 400 {
		l := make([][]int, r.Intn(6))
		closed := make([]bool, len(l))
		for k := range l {
			l[k] = numbers(400)[:r.Intn([]int{2, 5, 80}[r.Intn(3)])]
			closed[k] = r.Intn(2) == 0
		}
		m, all, e := cells.Build(l, closed)
		if e != api.OK || cells.Check(m) != api.OK || len(m.Structs) != len(slices.Concat(l...)) {
			t.Fatal(l, closed, m, e)
		}
		p, e := cells.Draw(m, all)
		if e != api.OK {
			t.Fatal(l, e)
		}
		for k := range l {
			rest := map[bool]api.Value{false: hole(), true: none()}[closed[k]]
			got, end, e := cells.Stream(p, k)
			if !slices.Equal(got, l[k]) || end != rest || e != api.OK {
				t.Fatal(l, k, got, end, e)
			}
			q, _ := cells.Draw(m, all[k:k+1])
			if got, end, e = cells.Stream(q, 0); !slices.Equal(got, l[k]) || end != rest || e != api.OK {
				t.Fatal(l, k, got, end, e)
			}
		}
	}
}
