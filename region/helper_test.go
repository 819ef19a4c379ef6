package region_test

import (
	"fmt"
	"math/rand"
	"slices"
	"strings"
	"testing"

	"floodgate/api"
	"floodgate/parse"
	"floodgate/region"
)

func l(n ...int) []int { return n }

func parts(p ...api.Part) []api.Part { return p }

// bound reads a bound as a text has it: a number, #, or # - and a number.
func bound(s string) api.Bound {
	var n int
	if s == "#" {
		return api.Bound{Size: true}
	}
	if _, e := fmt.Sscanf(s, "# - %d", &n); e == nil {
		return api.Bound{Size: true, N: n}
	}
	fmt.Sscanf(s, "%d", &n)
	return api.Bound{N: n}
}

// cell and span are parts of bounds as a text has them.
func cell(s string) api.Part { return api.Part{From: bound(s), To: bound(s), Step: 1} }

func span(from, to string, step int) api.Part {
	return api.Part{From: bound(from), To: bound(to), Step: step}
}

func miss(size, cell int, kind uint8) api.Miss { return api.Miss{Size: size, Cell: cell, Kind: kind} }

// sample is the chapter's example.
func sample() []api.Part { return parts(cell("0"), cell("1"), span("2", "# - 1", 1)) }

// upTo are the integers from one to one.
func upTo(from, to int) []int {
	var all []int
	for n := from; n <= to; n++ {
		all = append(all, n)
	}
	return all
}

func tree(t *testing.T, s string) api.Tree {
	t.Helper()
	x, at, e := parse.Parse(s)
	if e != api.OK {
		t.Fatalf("%q %d %v", s, at, e)
	}
	return x
}

// marked returns the tree of a text in which a ^ stands before the own token of a node, and this node.
func marked(t *testing.T, s string) (api.Tree, int) {
	t.Helper()
	before, after, ok := strings.Cut(s, "^")
	x := tree(t, before+after)
	if !ok {
		return x, 0
	}
	node, e := parse.Find(x, len(before))
	if e != api.OK {
		t.Fatalf("%q: no node", s)
	}
	return x, node
}

// def is a def that gives expressions.
func def(s string) string { return "def f(n: int) -> int { x = " + s + "; give 1 }" }

// shown writes a bound as a text has it.
func shown(b api.Bound) string {
	switch {
	case !b.Size:
		return fmt.Sprint(b.N)
	case b.N == 0:
		return "#"
	}
	return fmt.Sprint("# - ", b.N)
}

// anyBound is a bound, and anyPart a part, whose numbers are mostly small.
func anyBound(r *rand.Rand) api.Bound {
	n := []int{r.Intn(4), r.Intn(12), r.Intn(101), 100 - r.Intn(3)}[r.Intn(4)]
	return api.Bound{Size: r.Intn(2) == 0, N: n}
}

func anyPart(r *rand.Rand) api.Part {
	p := api.Part{From: anyBound(r), To: anyBound(r), Step: 1 + r.Intn(9)}
	switch r.Intn(3) {
	case 0:
		p.To, p.Step = p.From, 1
	case 1:
		p.From, p.To = api.Bound{N: r.Intn(5)}, api.Bound{Size: true, N: r.Intn(5)}
	}
	return p
}

// split puts two parts, or one, in the place of a part; from some size on they have the same cells.
func split(r *rand.Rand, p api.Part) []api.Part {
	first, rest := api.Part{From: p.From, To: p.From, Step: 1}, p
	rest.From.N += p.Step
	switch {
	case p.From.Size || p.From.N+p.Step > api.MaxArray:
		return parts(p)
	case r.Intn(3) > 0 && p.Step < 5:
		p.Step *= 2
		rest.Step *= 2
		return parts(p, rest)
	case p.Step == 1 && p.To.Size && r.Intn(2) == 0: // the last cell alone
		last := api.Part{From: p.To, To: p.To, Step: 1}
		p.To.N++
		return parts(p, last)
	}
	return parts(first, rest)
}

// goodParts are parts that are right from some size on.
func goodParts(r *rand.Rand) []api.Part {
	all := parts(span("0", "# - 1", 1))
	for range r.Intn(9) {
		i := r.Intn(len(all))
		all = slices.Replace(all, i, i+1, split(r, all[i])...)
	}
	r.Shuffle(len(all), func(i, j int) { all[i], all[j] = all[j], all[i] })
	return all
}

// spoiled are parts of which some are others.
func spoiled(r *rand.Rand, all []api.Part) []api.Part {
	for range 1 + r.Intn(2) {
		i := r.Intn(len(all) + 1)
		switch r.Intn(4) {
		case 0:
			if len(all) < api.MaxRuns {
				all = slices.Insert(all, i, anyPart(r))
			}
		case 1:
			if i < len(all) {
				all = slices.Delete(all, i, i+1)
			}
		case 2:
			if i < len(all) {
				all[i].To = anyBound(r)
			}
		case 3:
			if i < len(all) {
				all[i] = anyPart(r)
			}
		}
	}
	return all
}

// lists yields random lists of parts: right ones, spoiled ones, and any.
func lists(seed int64, many int) func(yield func(all []api.Part) bool) {
	return func(yield func(all []api.Part) bool) {
		r := rand.New(rand.NewSource(seed))
		for i := range many {
			all := goodParts(r)
			if i%3 == 1 {
				all = spoiled(r, all)
			}
			if i%3 == 2 {
				all = nil
				for range r.Intn(api.MaxRuns + 1) {
					all = append(all, anyPart(r))
				}
			}
			if !yield(all) {
				return
			}
		}
	}
}

// errorsOf are the errors of all functions with parts. What is told together with an error must be nothing.
func errorsOf(t *testing.T, all []api.Part, size, one int) map[string]api.Errno {
	t.Helper()
	m := map[string]api.Errno{}
	put := func(name string, nothing bool, e api.Errno) {
		m[name] = e
		if e != api.OK && !nothing {
			t.Error(name, "told something together with an error", e)
		}
	}
	if len(all) > 0 {
		cells, e := region.Cells(all[0], size)
		put("Cells", len(cells) == 0, e)
	}
	misses, e := region.Misses(all, size)
	put("Misses", len(misses) == 0, e)
	first, e := region.First(all, size)
	put("First", first == api.Miss{}, e)
	sizes, e := region.Sizes(all)
	put("Sizes", len(sizes) == 0, e)
	least, e := region.Least(all)
	put("Least", least == 0, e)
	who, e := region.Who(all, size, one)
	put("Who", who == 0, e)
	fill, e := region.Fill(all, size)
	put("Fill", len(fill) == 0, e)
	slim, e := region.Slim(all)
	put("Slim", len(slim) == 0, e)
	return m
}
