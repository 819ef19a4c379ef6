package region_test

import (
	"slices"
	"testing"

	"floodgate/api"
	"floodgate/region"
)

// P5.3: misses of each kind, by their cells, the sizes 0 and 100.
func TestMisses(t *testing.T) {
	for _, x := range []struct {
		all  []api.Part
		size int
		want []api.Miss
	}{
		{sample(), 2, nil},
		{sample(), 100, nil},
		{sample(), 1, []api.Miss{miss(1, 1, api.CellOutside)}},
		{sample(), 0, []api.Miss{miss(0, 0, api.CellOutside), miss(0, 1, api.CellOutside)}},
		{parts(span("0", "# - 1", 2), span("1", "#", 1)), 3, []api.Miss{miss(3, 2, api.CellTwice), miss(3, 3, api.CellOutside)}},
		{nil, 0, nil},
		{nil, 2, []api.Miss{miss(2, 0, api.CellMissing), miss(2, 1, api.CellMissing)}},
		{parts(cell("1"), cell("1")), 2, []api.Miss{miss(2, 0, api.CellMissing), miss(2, 1, api.CellTwice)}},
		{parts(cell("0"), cell("0"), span("0", "0", 4)), 1, []api.Miss{miss(1, 0, api.CellTwice)}},
		{parts(cell("2"), cell("2"), cell("2")), 2, []api.Miss{miss(2, 0, api.CellMissing), miss(2, 1, api.CellMissing), miss(2, 2, api.CellOutside)}},
		{parts(cell("# - 2"), cell("# - 2")), 1, []api.Miss{miss(1, -1, api.CellOutside), miss(1, 0, api.CellMissing)}},
		{parts(cell("#"), span("0", "# - 2", 1), cell("# - 100")), 100, []api.Miss{miss(100, 0, api.CellTwice), miss(100, 99, api.CellMissing), miss(100, 100, api.CellOutside)}},
		{parts(cell("# - 100"), cell("100")), 0, []api.Miss{miss(0, -100, api.CellOutside), miss(0, 100, api.CellOutside)}},
		{parts(span("# - 2", "1", 1), span("3", "2", 1), span("1", "2", 1)), 1, []api.Miss{miss(1, -1, api.CellOutside), miss(1, 1, api.CellOutside), miss(1, 2, api.CellOutside)}},
		{slices.Repeat(parts(span("0", "# - 1", 1)), 12), 1, []api.Miss{miss(1, 0, api.CellTwice)}},
	} {
		got, e := region.Misses(x.all, x.size)
		if e != api.OK || !slices.Equal(got, x.want) {
			t.Error(x.all, x.size, got, e)
		}
		if want := wantMisses(x.all, x.size); !slices.Equal(want, x.want) {
			t.Error("oracle", x.all, x.size, want)
		}
	}
}

// found is what First says, from a least size on.
type found struct {
	least int
	m     api.Miss
}

// P5.4, P5.5: parts that are right for all sizes, from one on, for some but not for all greater ones, for one, and for none.
func TestSizes(t *testing.T) {
	none := api.Miss{}
	for _, x := range []struct {
		all   []api.Part
		sizes []int
		least int // -1: none
		first []found
	}{
		{sample(), upTo(2, 100), 2, []found{{0, miss(0, 0, api.CellOutside)}, {1, miss(1, 1, api.CellOutside)}, {2, none}, {100, none}}},
		{parts(span("0", "# - 1", 1)), upTo(0, 100), 0, []found{{0, none}, {57, none}, {100, none}}},
		{parts(span("0", "# - 1", 2), cell("1"), cell("3")), l(4, 5), -1, []found{{3, miss(3, 3, api.CellOutside)}, {4, miss(6, 5, api.CellMissing)}, {5, miss(6, 5, api.CellMissing)}, {6, miss(6, 5, api.CellMissing)}, {100, miss(100, 5, api.CellMissing)}}},
		{nil, l(0), -1, []found{{0, miss(1, 0, api.CellMissing)}, {99, miss(99, 0, api.CellMissing)}, {100, miss(100, 0, api.CellMissing)}}},
		{parts(cell("0")), l(1), -1, []found{{0, miss(0, 0, api.CellOutside)}, {1, miss(2, 1, api.CellMissing)}}},
		{parts(span("0", "99", 1)), l(100), 100, []found{{0, miss(0, 0, api.CellOutside)}, {99, miss(99, 99, api.CellOutside)}, {100, none}}},
		{parts(span("0", "98", 1), cell("# - 1")), l(100), 100, []found{{98, miss(98, 97, api.CellTwice)}, {99, miss(99, 98, api.CellTwice)}, {100, none}}},
		{parts(span("0", "98", 1)), l(99), -1, []found{{99, miss(100, 99, api.CellMissing)}, {100, miss(100, 99, api.CellMissing)}}},
		{parts(cell("100")), nil, -1, []found{{0, miss(0, 100, api.CellOutside)}, {100, miss(100, 0, api.CellMissing)}}},
		{parts(cell("#")), nil, -1, []found{{0, miss(0, 0, api.CellOutside)}, {1, miss(1, 0, api.CellMissing)}}},
		{parts(cell("# - 1")), l(1), -1, []found{{0, miss(0, -1, api.CellOutside)}, {1, miss(2, 0, api.CellMissing)}}},
		{parts(span("0", "# - 3", 1), cell("# - 2"), cell("# - 1")), upTo(2, 100), 2, []found{{0, miss(0, -2, api.CellOutside)}, {1, miss(1, -1, api.CellOutside)}, {2, none}}},
		{parts(span("0", "# - 1", 1), span("100", "# - 1", 1)), upTo(0, 100), 0, []found{{0, none}, {100, none}}},
		{parts(span("0", "# - 1", 1), span("99", "# - 1", 1)), upTo(0, 99), -1, []found{{0, miss(100, 99, api.CellTwice)}, {100, miss(100, 99, api.CellTwice)}}},
		{parts(span("0", "# - 1", 2), span("1", "# - 1", 4), cell("3")), upTo(4, 7), -1, []found{{0, miss(0, 3, api.CellOutside)}, {5, miss(8, 7, api.CellMissing)}}},
		{parts(span("0", "50", 1), span("51", "# - 1", 1)), upTo(51, 100), 51, []found{{50, miss(50, 50, api.CellOutside)}, {51, none}}},
	} {
		if got, e := region.Sizes(x.all); e != api.OK || !slices.Equal(got, x.sizes) {
			t.Error(x.all, got, e)
		}
		least, asked := x.least, api.OK
		if least < 0 {
			least, asked = 0, api.ErrNone
		}
		if got, e := region.Least(x.all); got != least || e != asked {
			t.Error(x.all, got, e)
		}
		for _, f := range x.first {
			asked := api.OK
			if f.m == none {
				asked = api.ErrNone
			}
			if got, e := region.First(x.all, f.least); got != f.m || e != asked {
				t.Error(x.all, f.least, got, e)
			}
		}
	}
}

// P5.3, P5.4, P5.5: random parts, with all sizes.
func TestMissesRandom(t *testing.T) {
	least, some, no := 0, 0, 0
	for all := range lists(51, 90) {
		for _, size := range append(upTo(0, 12), 50, 99, 100) {
			if got, e := region.Misses(all, size); e != api.OK || !slices.Equal(got, wantMisses(all, size)) {
				t.Fatal(all, size, got, e)
			}
		}
		want := wantSizes(all)
		sizes, e := region.Sizes(all)
		if e != api.OK || !slices.Equal(sizes, want) {
			t.Fatal(all, sizes, want, e)
		}
		from, asked := wantLeast(want)
		if got, e := region.Least(all); got != from || e != asked {
			t.Fatal(all, got, e, from, asked)
		}
		for _, size := range l(0, 1, from, max(from-1, 0), 6, 99, 100) {
			m, asked := wantFirst(all, size)
			if got, e := region.First(all, size); got != m || e != asked {
				t.Fatal(all, size, got, e, m, asked)
			}
		}
		switch {
		case asked == api.OK:
			least++
		case len(want) > 0:
			some++
		default:
			no++
		}
	}
	if least < 20 || some < 5 || no < 15 {
		t.Error(least, some, no)
	}
}

// P5.5: of parts that are right from a size on, each of these sizes can be the least one.
func TestEachLeast(t *testing.T) {
	for n := range api.MaxArray {
		all := parts(span("0", shown(api.Bound{N: n}), 1), api.Part{From: api.Bound{N: n + 1}, To: bound("# - 1"), Step: 1})
		sizes, e := region.Sizes(all)
		least, f := region.Least(all)
		if e != api.OK || f != api.OK || least != n+1 || !slices.Equal(sizes, upTo(n+1, 100)) {
			t.Error(n, sizes, least, e, f)
		}
	}
}
