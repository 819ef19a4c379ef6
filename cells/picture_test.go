package cells_test

import (
	"math/rand"
	"slices"
	"testing"

	"floodgate/api"
	"floodgate/cells"
)

// P6.5: structures that are reached in two ways, from themselves, or not at all; the order is breadth first.
func TestDraw(t *testing.T) {
	tree := memory(values(num(0)), values(ref(6), ref(4), hole()), values(ref(5), ref(3)), values(num(3)), values(num(4), ref(5)), values(num(5)), values(num(6), ref(7)), values(ref(1)))
	for i, x := range []struct {
		m    api.Memory
		l    []api.Value
		want api.Picture
	}{
		{api.Memory{}, nil, api.Picture{}},
		{tree, nil, api.Picture{}},
		{tree, allValues(), picture(allValues())},
		{memory(values(ref(1)), values(ref(1), hole())), values(ref(1), ref(0), ref(1)), picture(values(ref(0), ref(1), ref(0)), values(ref(0), hole()), values(ref(0)))},
		{memory(nil), values(ref(0)), picture(values(ref(0)), nil)},
		{memory(nil, nil), values(ref(1), ref(0), ref(1)), picture(values(ref(0), ref(1), ref(0)), nil, nil)},
		{memory(values(ref(0))), values(ref(0)), picture(values(ref(0)), values(ref(0)))},
		{memory(values(ref(1)), values(ref(0))), values(hole(), ref(1)), picture(values(hole(), ref(0)), values(ref(1)), values(ref(0)))},
		{memory(allValues(), values(ref(0), ref(0))), values(ref(1)), picture(values(ref(0)), values(ref(1), ref(1)), allValues())},
		{tree, values(ref(2), ref(1)), picture(values(ref(0), ref(1)), values(ref(2), ref(3)), values(ref(4), ref(5), hole()), values(num(5)), values(num(3)), values(num(6), ref(6)), values(num(4), ref(2)), values(ref(1)))},
		{tree, values(ref(1)), picture(values(ref(0)), values(ref(1), ref(2), hole()), values(num(6), ref(3)), values(num(4), ref(4)), values(ref(0)), values(num(5)))},
	} {
		p, e := cells.Draw(x.m, x.l)
		if !samePicture(p, x.want) || e != api.OK {
			t.Error(i, p, e)
		}
		if q := wantPicture(x.m, x.l); !samePicture(q, x.want) {
			t.Error("oracle", i, q)
		}
		if !cells.IsPicture(p) {
			t.Error(i, "no picture")
		}
		m, e := cells.Memory(p)
		if !sameMemory(m, memory(x.want.Cells...)) || e != api.OK {
			t.Error(i, m, e)
		}
	}
}

// P6.5: reads that wait are not in a picture.
func TestDrawWaiting(t *testing.T) {
	m := memory(values(hole(), ref(1)), values(hole()))
	want, _ := cells.Draw(m, values(ref(1), ref(0)))
	m.Structs[0].Wait = waits(0, 3, 4)
	m.Structs[1].Wait = waits(0, 3)
	p, e := cells.Draw(m, values(ref(1), ref(0)))
	if !samePicture(p, want) || e != api.OK {
		t.Error(p, e)
	}
	if m, e := cells.Memory(p); !sameMemory(m, memory(values(hole()), values(hole(), ref(0)))) || e != api.OK {
		t.Error(m, e)
	}
}

// P6.5: values that are none of the memory, wherever they stand.
func TestDrawErrors(t *testing.T) {
	m := memory(values(hole()), nil)
	for _, v := range append(notValues(), ref(2), ref(3), ref(greatest)) {
		for _, l := range lists(values(v), values(ref(0), v), values(v, hole()), slices.Repeat(values(v), 100), slices.Repeat(values(v), 101)) {
			if p, e := cells.Draw(m, l); len(p.Values)+len(p.Cells) > 0 || e != api.ErrArg {
				t.Error(l, p, e)
			}
		}
	}
	if _, e := cells.Draw(api.Memory{}, values(ref(0))); e != api.ErrArg {
		t.Error(e)
	}
}

// notPictures are pictures that are none, each for one reason.
func notPictures() []api.Picture {
	all := []api.Picture{
		picture(nil, nil),
		picture(values(ref(0))),
		picture(values(ref(1)), nil),
		picture(values(ref(1)), nil, nil),
		picture(values(ref(1), ref(0)), nil, nil),
		picture(values(ref(0), ref(2), ref(1)), nil, nil, nil),
		picture(values(ref(0)), values(ref(2), ref(1)), nil, nil),
		picture(values(ref(0)), values(ref(1), ref(3)), values(ref(2)), nil, nil),
		picture(values(ref(0), ref(2)), values(ref(1)), nil, nil),
		picture(values(ref(0)), nil, nil),
		picture(values(ref(0)), nil, values(ref(0), ref(1))),
		picture(values(ref(0)), values(ref(1))),
		picture(values(num(1)), nil),
		picture(slices.Repeat(values(num(1)), 101)),
		picture(append(values(ref(0)), make([]api.Value, 100)...), nil),
		picture(values(ref(0)), make([]api.Value, 101)),
		picture(values(ref(0)), chain(401)...),
		picture(nil, make([][]api.Value, 401)...),
	}
	for _, v := range append(notValues(), ref(2), ref(greatest)) {
		all = append(all, picture(values(v)), picture(values(v, ref(0)), nil), picture(values(hole(), ref(0), v), nil), picture(values(ref(0), ref(1)), values(v), nil), picture(values(ref(0), ref(1)), nil, values(num(1), hole(), v)))
	}
	return all
}

// P6.5, P6.6, P6.8, P6.9, R1, R2: what is no picture comes first, in both places, and whatever the numbers are.
func TestNotPictures(t *testing.T) {
	right := picture(values(ref(0)), values(hole()))
	for i, p := range notPictures() {
		if cells.IsPicture(p) || wantIsPicture(p) {
			t.Error(i, p, "is a picture")
		}
		for _, x := range [][2]api.Picture{{p, right}, {right, p}, {p, p}, {p, api.Picture{}}, {api.Picture{}, p}} {
			if is, e := cells.Below(x[0], x[1]); is || e != api.ErrForm {
				t.Error(i, x, is, e)
			}
		}
		if m, e := cells.Memory(p); len(m.Structs) > 0 || e != api.ErrForm {
			t.Error(i, m, e)
		}
		for _, n := range []int{-1, 0, 1, 12, 13, 101, least, greatest} {
			if l, end, e := cells.Stream(p, n); len(l) > 0 || end != hole() || e != api.ErrForm {
				t.Error(i, n, l, end, e)
			}
			if s, e := cells.Show(p, n); s != "" || e != api.ErrForm {
				t.Error(i, n, s, e)
			}
		}
	}
}

// P6.5: random memories, and pictures that are changed in one place.
func TestDrawRandom(t *testing.T) {
	r := rand.New(rand.NewSource(65))
	is, no := 0, 0
	for range 4000 {
		m := anyMemory(r, 7)
		var l []api.Value
		for range r.Intn(5) {
			l = append(l, anyValue(r, len(m.Structs)))
		}
		p, e := cells.Draw(m, l)
		if want := wantPicture(m, l); !samePicture(p, want) || e != api.OK {
			t.Fatal(m, l, p, want, e)
		}
		changed := append(slices.Clone(p.Cells), p.Values)
		one := changed[r.Intn(len(changed))]
		if len(one) == 0 {
			continue
		}
		one[r.Intn(len(one))] = anyValue(r, len(p.Cells)+1)
		if got, want := cells.IsPicture(p), wantIsPicture(p); got != want {
			t.Fatal(p, got, want)
		}
		if cells.IsPicture(p) {
			is++
		} else {
			no++
		}
	}
	if is < 500 || no < 500 {
		t.Error(is, no)
	}
}

// P6.6: pairs of values, lists of different lengths, structures that are shared on one side only.
func TestBelow(t *testing.T) {
	for i, x := range []struct {
		a, b     api.Picture
		is, back bool
	}{
		{picture(nil), picture(nil), true, true},
		{picture(values(hole())), picture(values(hole())), true, true},
		{picture(values(hole())), picture(values(none())), true, false},
		{picture(values(hole())), picture(values(ref(0)), nil), true, false},
		{picture(values(hole(), num(1))), picture(values(num(1), hole())), false, false},
		{picture(nil), picture(values(hole())), false, false},
		{picture(values(hole())), picture(values(hole(), hole())), false, false},
		{picture(values(num(1))), picture(values(num(2))), false, false},
		{picture(values(num(1))), picture(values(truth(1))), false, false},
		{picture(values(num(0))), picture(values(none())), false, false},
		{picture(values(none())), picture(values(none())), true, true},
		{picture(values(bad(1))), picture(values(bad(1))), true, true},
		{picture(values(bad(1))), picture(values(bad(2))), false, false},
		{picture(values(num(0))), picture(values(ref(0)), nil), false, false},
		{picture(values(ref(0)), nil), picture(values(ref(0)), nil), true, true},
		{picture(values(ref(0)), nil), picture(values(ref(0)), values(hole())), false, false},
		{picture(values(ref(0)), values(hole())), picture(values(ref(0)), values(num(7))), true, false},
		{picture(values(ref(0)), values(hole())), picture(values(ref(0)), values(ref(0))), true, false},
		{picture(values(ref(0)), values(num(1))), picture(values(ref(0)), values(num(2))), false, false},
		{picture(values(ref(0), ref(0)), nil), picture(values(ref(0), ref(1)), nil, nil), false, false},
		{picture(values(hole(), ref(0)), nil), picture(values(ref(0), ref(0)), nil), true, false},
		{picture(values(hole(), ref(0)), nil), picture(values(ref(0), ref(1)), nil, nil), true, false},
		{picture(values(ref(0), hole(), ref(1)), nil, nil), picture(values(ref(0), ref(0), ref(1)), nil, nil), true, false},
		{picture(values(ref(0)), values(ref(0))), picture(values(ref(0)), values(ref(1)), values(ref(0))), false, false},
		{picture(values(ref(0)), values(ref(0))), picture(values(ref(0)), values(ref(1)), values(ref(1))), false, false},
		{picture(values(ref(0)), values(ref(1)), values(hole())), picture(values(ref(0)), values(ref(1)), values(ref(0))), true, false},
		{picture(values(ref(0)), values(hole(), ref(1)), values(num(3))), picture(values(ref(0)), values(ref(1), ref(2)), nil, values(num(3))), true, false},
		{picture(values(ref(0)), values(hole(), ref(1)), nil), picture(values(ref(0)), values(ref(1), ref(2)), nil, values(num(3))), false, false},
		{picture(values(ref(0)), values(ref(1), ref(2)), values(hole()), values(hole())), picture(values(ref(0)), values(ref(1), ref(1)), values(num(1))), false, false},
		{picture(values(ref(0), ref(1)), values(ref(1)), values(hole())), picture(values(ref(0), ref(1)), values(ref(2)), values(hole()), values(hole())), false, false},
		{picture(values(ref(0)), chain(400)...), picture(values(ref(0)), chain(400)...), true, true},
		{picture(values(ref(0)), chain(399)...), picture(values(ref(0)), chain(400)...), true, false},
	} {
		is, e := cells.Below(x.a, x.b)
		back, f := cells.Below(x.b, x.a)
		if is != x.is || back != x.back || e != api.OK || f != api.OK {
			t.Error(i, is, e, back, f)
		}
		if wantBelow(x.a, x.b) != x.is || wantBelow(x.b, x.a) != x.back {
			t.Error("oracle", i)
		}
	}
}

// filled fills some holes of a picture, with new structures too, and draws it again.
func filled(t *testing.T, r *rand.Rand, p api.Picture) api.Picture {
	t.Helper()
	more := len(p.Cells) + 2
	l := append(slices.Clone(p.Cells), values(hole(), num(1)), values(anyValue(r, more)))
	l = append(l, p.Values)
	for i, c := range l {
		l[i] = slices.Clone(c)
		for k, v := range c {
			if v == hole() && r.Intn(3) == 0 {
				l[i][k] = anyValue(r, more)
			}
		}
	}
	q, e := cells.Draw(memory(l[:more]...), l[more])
	if e != api.OK {
		t.Fatal(l, e)
	}
	return q
}

// P6.6: random pictures, with more in them, and with something else.
func TestBelowRandom(t *testing.T) {
	r := rand.New(rand.NewSource(66))
	count := map[bool]int{}
	for range 6000 {
		a := anyPicture(t, r)
		b := filled(t, r, a)
		if is, e := cells.Below(a, b); !is || e != api.OK {
			t.Fatal(a, b, is, e)
		}
		if l := slices.Concat(b.Cells...); len(l) > 0 && r.Intn(2) == 0 {
			c := b.Cells[r.Intn(len(b.Cells))]
			for k := range c {
				if r.Intn(3) == 0 {
					c[k] = anyValue(r, len(b.Cells))
				}
			}
			b, _ = cells.Draw(memory(b.Cells...), b.Values)
		}
		for _, x := range [][2]api.Picture{{a, b}, {b, a}, {a, anyPicture(t, r)}} {
			want := wantBelow(x[0], x[1])
			if is, e := cells.Below(x[0], x[1]); is != want || e != api.OK {
				t.Fatal(x, is, e)
			}
			count[want]++
		}
	}
	if count[true] < 2000 || count[false] < 2000 {
		t.Error(count)
	}
}

// smallPictures are all pictures of at most two values and two structures of at most two cells, with few values.
func smallPictures(t *testing.T) []api.Picture {
	t.Helper()
	some := values(hole(), num(1), ref(0), ref(1))
	var short [][]api.Value
	for _, v := range some {
		short = append(short, values(v))
		for _, w := range some {
			short = append(short, values(v, w))
		}
	}
	var all []api.Picture
	put := func(p api.Picture) {
		is := wantIsPicture(p)
		if cells.IsPicture(p) != is {
			t.Fatal(p, is)
		}
		if is {
			all = append(all, p)
		}
	}
	short = append(short, nil)
	for _, l := range short {
		put(picture(l))
		for _, c := range short {
			put(picture(l, c))
			for _, d := range short {
				put(picture(l, c, d))
			}
		}
	}
	return all
}

// P6.5, P6.6, P6.14: all small pictures, with each other: below is told as the definition says it, and is an order.
func TestSmallPictures(t *testing.T) {
	all := smallPictures(t)
	upper := make([][]int, len(all))
	for i, a := range all {
		for k, b := range all {
			is, e := cells.Below(a, b)
			if e != api.OK || (i+k)%5 == 0 && is != wantBelow(a, b) { // the oracle is slow
				t.Fatal(a, b, is, e)
			}
			if is {
				upper[i] = append(upper[i], k)
			}
		}
	}
	for i := range all {
		if !slices.Contains(upper[i], i) {
			t.Fatal(all[i])
		}
		for _, k := range upper[i] {
			if k != i && slices.Contains(upper[k], i) {
				t.Fatal(all[i], all[k])
			}
			for _, n := range upper[k] {
				if _, ok := slices.BinarySearch(upper[i], n); !ok {
					t.Fatal(all[i], all[k], all[n])
				}
			}
		}
	}
	if len(all) < 300 {
		t.Error(len(all))
	}
}
