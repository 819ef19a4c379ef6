package region_test

import (
	"math/rand"
	"slices"
	"testing"

	"floodgate/api"
	"floodgate/region"
)

// sizes are some sizes, both ends among them.
func sizes(r *rand.Rand) []int { return l(0, 1, 2, 3, 9, r.Intn(101), r.Intn(101), 99, 100) }

func cellsOf(t *testing.T, p api.Part, size int) []int {
	t.Helper()
	cells, e := region.Cells(p, size)
	if e != api.OK {
		t.Fatal(p, size, e)
	}
	return cells
}

func missesOf(t *testing.T, all []api.Part, size int) []api.Miss {
	t.Helper()
	m, e := region.Misses(all, size)
	if e != api.OK {
		t.Fatal(all, size, e)
	}
	return m
}

// P5.8: with the sizes that parts are right for their cells are the numbers below the size, each once; with no others.
func TestOnce(t *testing.T) {
	for all := range lists(58, 120) {
		right, _ := region.Sizes(all)
		for size := range api.MaxArray + 1 {
			var cells []int
			for _, p := range all {
				cells = append(cells, cellsOf(t, p, size)...)
			}
			slices.Sort(cells)
			once := slices.Equal(cells, upTo(0, size-1))
			if once != slices.Contains(right, size) || once != (len(missesOf(t, all, size)) == 0) {
				t.Fatal(all, size, cells)
			}
			if !once {
				continue
			}
			for one := range size {
				part, e := region.Who(all, size, one)
				if own := owners(all, size, one); e != api.OK || !slices.Equal(own, l(part)) {
					t.Fatal(all, size, one, part, own, e)
				}
			}
		}
	}
}

// same asks whether parts have the same misses, Sizes and Least as others.
func same(t *testing.T, all, others []api.Part, some []int) {
	t.Helper()
	for _, size := range some {
		if a, b := missesOf(t, all, size), missesOf(t, others, size); !slices.Equal(a, b) {
			t.Fatal(all, others, size, a, b)
		}
	}
	a, e := region.Sizes(all)
	b, f := region.Sizes(others)
	if !slices.Equal(a, b) || e != f {
		t.Fatal(all, others, a, b, e, f)
	}
	n, e := region.Least(all)
	m, f := region.Least(others)
	if n != m || e != f {
		t.Fatal(all, others, n, m, e, f)
	}
}

// P5.9: parts in another order, and slim ones.
func TestWhateverTheOrder(t *testing.T) {
	r := rand.New(rand.NewSource(9))
	slimmer := 0
	for all := range lists(59, 300) {
		for len(all) > 0 && len(all) < api.MaxRuns && r.Intn(3) == 0 {
			all = append(all, parts(span("9", "3", 2), span("#", "# - 2", 1), span("100", "# - 1", 1))[r.Intn(3)])
		}
		others := slices.Clone(all)
		r.Shuffle(len(others), func(i, j int) { others[i], others[j] = others[j], others[i] })
		same(t, all, others, sizes(r))
		slim, e := region.Slim(all)
		if e != api.OK {
			t.Fatal(all, e)
		}
		same(t, all, slim, sizes(r))
		if len(slim) < len(all) {
			slimmer++
		}
	}
	if slimmer < 20 {
		t.Error(slimmer)
	}
}

// valid reports whether parts are valid.
func valid(all []api.Part) bool {
	_, e := region.Slim(all)
	return e == api.OK
}

// P5.10: a span from a number on has the cells of two with twice the step, or of its first cell and the rest.
func TestSplit(t *testing.T) {
	r := rand.New(rand.NewSource(10))
	twice, alone := 0, 0
	for all := range lists(510, 3000) {
		if len(all) == 0 {
			continue
		}
		i := r.Intn(len(all))
		p := all[i]
		if p.From.Size {
			continue
		}
		a, b, rest := p, p, p
		a.Step, b.Step = 2*p.Step, 2*p.Step
		b.From.N += p.Step
		rest.From.N += p.Step
		first := api.Part{From: p.From, To: p.From, Step: 1}
		halves := slices.Replace(slices.Clone(all), i, i+1, a, b)
		tail := slices.Replace(slices.Clone(all), i, i+1, first, rest)
		for _, size := range sizes(r) {
			cells, misses := cellsOf(t, p, size), missesOf(t, all, size)
			if valid(halves) {
				twice++
				both := append(cellsOf(t, a, size), cellsOf(t, b, size)...)
				slices.Sort(both)
				if !slices.Equal(both, cells) || !slices.Equal(misses, missesOf(t, halves, size)) {
					t.Fatal(all, i, size)
				}
			}
			if valid(tail) && len(cells) > 0 {
				alone++
				if !slices.Equal(append(l(p.From.N), cellsOf(t, rest, size)...), cells) || !slices.Equal(misses, missesOf(t, tail, size)) {
					t.Fatal(all, i, size)
				}
			}
		}
	}
	if twice < 1000 || alone < 1000 {
		t.Error(twice, alone)
	}
}

// P5.11: the cells of a part from a number n to the size less m are as many as those from m to the size less n, and with the size greater by the step there is one more, if there is one at all.
func TestFromBothEnds(t *testing.T) {
	for n := range 101 {
		for _, m := range l(0, 1, 2, 3, 7, 50, 99, 100) {
			for step := 1; step <= api.MaxStep; step++ {
				p := api.Part{From: api.Bound{N: n}, To: api.Bound{Size: true, N: m}, Step: step}
				q := api.Part{From: api.Bound{N: m}, To: api.Bound{Size: true, N: n}, Step: step}
				for _, size := range l(0, 1, 2, 10, 50, 51, 90, 91) {
					many := len(cellsOf(t, p, size))
					if other := len(cellsOf(t, q, size)); other != many {
						t.Fatal(p, size, many, other)
					}
					if more := len(cellsOf(t, p, size+step)); many > 0 && more != many+1 {
						t.Fatal(p, size, many, more)
					}
				}
			}
		}
	}
}

// P5.12: from Least on there is no first miss; from the size before it there is one with this size.
func TestLeast(t *testing.T) {
	least, before := 0, 0
	for all := range lists(512, 400) {
		n, e := region.Least(all)
		last, f := region.First(all, api.MaxArray)
		if (e == api.OK) != (f == api.ErrNone) {
			t.Fatal(all, n, e, last, f)
		}
		if e != api.OK {
			continue
		}
		least++
		if m, e := region.First(all, n); e != api.ErrNone || m != (api.Miss{}) {
			t.Fatal(all, n, m, e)
		}
		right, _ := region.Sizes(all)
		if !slices.Equal(right[len(right)-(api.MaxArray+1-n):], upTo(n, api.MaxArray)) || slices.Contains(right, n-1) {
			t.Fatal(all, n, right)
		}
		if n == 0 {
			continue
		}
		before++
		if m, e := region.First(all, n-1); e != api.OK || m.Size != n-1 {
			t.Fatal(all, n, m, e)
		}
	}
	if least < 100 || before < 50 {
		t.Error(least, before)
	}
}
