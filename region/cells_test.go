package region_test

import (
	"math/rand"
	"slices"
	"testing"

	"floodgate/api"
	"floodgate/region"
)

// P5.3: the cells of single cells and spans, with bounds of both kinds, below 0 and above the size, and with no cell.
func TestCells(t *testing.T) {
	for _, x := range []struct {
		p    api.Part
		size int
		want []int
	}{
		{cell("0"), 0, l(0)},
		{cell("0"), 1, l(0)},
		{cell("7"), 3, l(7)},
		{cell("100"), 100, l(100)},
		{cell("#"), 0, l(0)},
		{cell("#"), 100, l(100)},
		{cell("# - 1"), 0, l(-1)},
		{cell("# - 1"), 9, l(8)},
		{cell("# - 100"), 0, l(-100)},
		{cell("# - 100"), 100, l(0)},
		{span("0", "# - 1", 1), 0, nil},
		{span("0", "# - 1", 1), 1, l(0)},
		{span("0", "# - 1", 1), 3, l(0, 1, 2)},
		{span("0", "#", 1), 2, l(0, 1, 2)},
		{span("2", "# - 1", 1), 2, nil},
		{span("2", "# - 1", 1), 3, l(2)},
		{span("2", "# - 3", 1), 4, nil},
		{span("1", "# - 2", 3), 9, l(1, 4, 7)},
		{span("1", "# - 2", 3), 8, l(1, 4)},
		{span("5", "4", 1), 9, nil},
		{span("5", "5", 9), 9, l(5)},
		{span("0", "100", 9), 0, l(0, 9, 18, 27, 36, 45, 54, 63, 72, 81, 90, 99)},
		{span("1", "100", 9), 7, l(1, 10, 19, 28, 37, 46, 55, 64, 73, 82, 91, 100)},
		{span("# - 2", "# - 1", 1), 0, l(-2, -1)},
		{span("# - 3", "1", 2), 2, l(-1, 1)},
		{span("# - 5", "#", 4), 2, l(-3, 1)},
		{span("# - 100", "#", 9), 0, l(-100, -91, -82, -73, -64, -55, -46, -37, -28, -19, -10, -1)},
		{span("#", "# - 1", 1), 50, nil},
		{span("#", "100", 7), 88, l(88, 95)},
		{span("#", "100", 1), 100, l(100)},
	} {
		got, e := region.Cells(x.p, x.size)
		if e != api.OK || !slices.Equal(got, x.want) {
			t.Error(x.p, x.size, got, e)
		}
	}
}

// P5.3: all kinds of bounds, at both ends of their numbers, with all steps and sizes at both ends.
func TestCellsAll(t *testing.T) {
	var bounds []api.Bound
	for _, n := range l(0, 1, 2, 3, 10, 50, 99, 100) {
		bounds = append(bounds, api.Bound{N: n}, api.Bound{Size: true, N: n})
	}
	for _, from := range bounds {
		for _, to := range bounds {
			for step := 1; step <= api.MaxStep; step++ {
				for _, size := range l(0, 1, 2, 51, 99, 100) {
					p := api.Part{From: from, To: to, Step: step}
					got, e := region.Cells(p, size)
					if want := wantCells(p, size); e != api.OK || !slices.Equal(got, want) {
						t.Fatal(p, size, got, want, e)
					}
				}
			}
		}
	}
}

// P5.6: Fill and Who: which parts have the cells, of several the first one, of cells that no part has none.
func TestFill(t *testing.T) {
	for _, x := range []struct {
		all  []api.Part
		size int
		want []int
	}{
		{sample(), 4, l(0, 1, 2, 2)},
		{sample(), 2, l(0, 1)},
		{sample(), 1, l(0)},
		{sample(), 0, nil},
		{nil, 0, nil},
		{nil, 3, l(-1, -1, -1)},
		{parts(cell("0"), cell("0"), cell("0")), 2, l(0, -1)},
		{parts(span("1", "# - 1", 1), span("0", "# - 1", 1)), 3, l(1, 0, 0)},
		{parts(cell("# - 3"), cell("# - 1"), cell("5")), 2, l(-1, 1)},
		{parts(span("# - 3", "#", 2), span("0", "100", 2)), 4, l(1, 0, 1, 0)},
		{parts(span("3", "2", 1), cell("1")), 3, l(-1, 1, -1)},
	} {
		got, e := region.Fill(x.all, x.size)
		if e != api.OK || !slices.Equal(got, x.want) {
			t.Error(x.all, x.size, got, e)
		}
		for one, want := range x.want {
			asked := api.OK
			if want < 0 {
				want, asked = 0, api.ErrNone
			}
			if part, e := region.Who(x.all, x.size, one); part != want || e != asked {
				t.Error(x.all, x.size, one, part, e)
			}
		}
	}
}

// P5.6: random parts, all cells, and cells that are none.
func TestFillRandom(t *testing.T) {
	r := rand.New(rand.NewSource(6))
	for all := range lists(56, 600) {
		size := l(0, 100, r.Intn(12), r.Intn(101))[r.Intn(4)]
		fill, e := region.Fill(all, size)
		if e != api.OK || len(fill) != size {
			t.Fatal(all, size, len(fill), e)
		}
		for one, got := range fill {
			want, asked := append(owners(all, size, one), -1)[0], api.OK
			if got != want {
				t.Fatal(all, size, one, got, want)
			}
			if want < 0 {
				want, asked = 0, api.ErrNone
			}
			if part, e := region.Who(all, size, one); part != want || e != asked {
				t.Fatal(all, size, one, part, e)
			}
		}
		for _, one := range l(-1, size, size+1, -1<<63, 1<<63-1) {
			if part, e := region.Who(all, size, one); part != 0 || e != api.ErrRange {
				t.Fatal(all, size, one, part, e)
			}
		}
	}
}

// P5.7: parts that have no cell with some size, or with any; their order stays.
func TestSlim(t *testing.T) {
	for _, x := range []struct{ all, want []api.Part }{
		{nil, nil},
		{sample(), sample()},
		{parts(span("1", "0", 1)), nil},
		{parts(span("1", "1", 9)), parts(span("1", "1", 9))},
		{parts(span("100", "# - 1", 1), cell("3"), span("99", "# - 1", 1)), parts(cell("3"), span("99", "# - 1", 1))},
		{parts(span("100", "#", 1), span("99", "# - 2", 1)), parts(span("100", "#", 1))},
		{parts(span("#", "0", 1), span("# - 1", "0", 1)), parts(span("#", "0", 1), span("# - 1", "0", 1))},
		{parts(span("# - 4", "# - 5", 1), span("# - 4", "# - 4", 1), span("#", "# - 100", 3)), parts(span("# - 4", "# - 4", 1))},
		{parts(cell("9"), span("8", "7", 2), cell("9"), span("0", "# - 100", 1), cell("# - 9")), parts(cell("9"), cell("9"), span("0", "# - 100", 1), cell("# - 9"))},
		{parts(span("100", "99", 1), cell("100"), span("1", "# - 100", 1)), parts(cell("100"))},
		{slices.Repeat(parts(cell("# - 100")), 12), slices.Repeat(parts(cell("# - 100")), 12)},
		{slices.Repeat(parts(span("#", "# - 1", 1)), 12), nil},
	} {
		if got, e := region.Slim(x.all); e != api.OK || !slices.Equal(got, x.want) {
			t.Error(x.all, got, e)
		}
	}
	for all := range lists(57, 120) {
		if got, e := region.Slim(all); e != api.OK || !slices.Equal(got, wantSlim(all)) {
			t.Fatal(all, got, e)
		}
	}
}
