package block_test

import (
	"fmt"
	"math/rand"
	"slices"
	"testing"

	"floodgate/api"
	"floodgate/block"
)

// P8.5: how often parameters and outputs are named: in inputs, more than once in one node; in Nexts; in Exits; and not at all.
func TestUses(t *testing.T) {
	for _, x := range []struct {
		s      string
		number int
		want   [][]int
	}{
		{power, 0, [][]int{{3, 1}, {1}, {1}, {1}, {1}}},
		{power, 1, [][]int{{2, 2, 1}, {1}, {3}, {2, 0}, {1, 0}, {2, 1}, {1}, {1}, {1}}},
		{"block main 1\n  exit\n", 0, [][]int{{0}}},
		{"block main 3\n  exit p2 p2 p0 p2\n", 0, [][]int{{1, 0, 3}}},
		{"block main 1\n  exit\nblock l 2\n  next p1 p1\n  exit p1 p0\n", 1, [][]int{{1, 3}}},
		{"block main 2\n  n0 = store p1 p1 p1\n  n1 = store p0 p1 p0\n  exit\n", 0, [][]int{{2, 4}, {}, {}}},
		{"block main 1\n  n0 = call f p0\n  n1 = call g p0\n  n2 = prim add n0.2 n0\n  n3 = loop l p0\n  exit n0.2 n3.1 n2\nblock f 1\n  exit p0 p0 p0\nblock g 1\n  exit\nblock l 1\n  n0 = switch p0 p0\n  next n0\n  exit n0.1 n0.1\n", 0, [][]int{{3}, {1, 0, 2}, {}, {1}, {0, 1}}},
		{every, 2, [][]int{{9, 2}, {1}, {1}, {1}, {1}, {1}, {1}, {1}, {1, 1}, {3}, {3}, {}, {1}, {1}, {1}, {1, 1}, {0, 1}, {}, {1, 1}}},
	} {
		u, e := block.Uses(right(t, x.s), x.number)
		if e != api.OK || fmt.Sprint(u) != fmt.Sprint(x.want) {
			t.Error(x.s, x.number, u, e)
		}
	}
}

// callers are programs whose blocks call each other as said, by their numbers; the block 0 is main. A name that begins with l is a loop's.
func callers(names []string, calls ...[]int) []api.Block {
	var l []api.Block
	for i, name := range names {
		b := api.Block{Name: name, Params: 1}
		for _, to := range calls[i] {
			op := map[bool]uint8{false: api.NCall, true: api.NLoop}[names[to][0] == 'l']
			b.Nodes = append(b.Nodes, node("nil p0"), api.Node{Op: op, Name: names[to], Ins: froms("p0")})
		}
		if name[0] == 'l' {
			b.Nexts = froms("p0")
		}
		l = append(l, b)
	}
	return l
}

func nobody() []int { return nil }

// P8.6: blocks that call themselves and each other, the same one twice, later and earlier ones, loops, and blocks that nobody needs.
func TestCallsNeedsSlim(t *testing.T) {
	for _, x := range []struct {
		names        []string
		calls, needs [][]int
		slim         []int
	}{
		{[]string{"main"}, [][]int{nobody()}, [][]int{nobody()}, []int{0}},
		{[]string{"main"}, [][]int{{0}}, [][]int{{0}}, []int{0}},
		{[]string{"main", "f"}, [][]int{nobody(), {0, 1}}, [][]int{nobody(), {0, 1}}, []int{0}},
		{[]string{"main", "f"}, [][]int{{1}, {0}}, [][]int{{0, 1}, {0, 1}}, []int{0, 1}},
		{[]string{"f", "main"}, [][]int{nobody(), {0, 0, 0}}, [][]int{nobody(), {0}}, []int{0, 1}},
		{[]string{"f", "main", "g"}, [][]int{{2}, {0, 2, 0}, {0}}, [][]int{{0, 2}, {0, 2}, {0, 2}}, []int{0, 1, 2}},
		{[]string{"l0", "f", "l1", "main", "g"}, [][]int{{2}, {3}, {2, 0}, {2}, {4, 1}}, [][]int{{0, 2}, {0, 2, 3}, {0, 2}, {0, 2}, {0, 1, 2, 3, 4}}, []int{0, 2, 3}},
		{[]string{"a", "b", "c", "d", "e", "main"}, [][]int{nobody(), {0}, {1}, {2}, {3}, {4}}, [][]int{nobody(), {0}, {0, 1}, {0, 1, 2}, {0, 1, 2, 3}, {0, 1, 2, 3, 4}}, []int{0, 1, 2, 3, 4, 5}},
		{[]string{"main", "b", "c", "d", "e", "f"}, [][]int{{1}, {2}, {3}, {4}, {5}, nobody()}, [][]int{{1, 2, 3, 4, 5}, {2, 3, 4, 5}, {3, 4, 5}, {4, 5}, {5}, nobody()}, []int{0, 1, 2, 3, 4, 5}},
		{[]string{"a", "b", "main", "c"}, [][]int{{1}, {3}, {3, 0}, {0}}, [][]int{{0, 1, 3}, {0, 1, 3}, {0, 1, 3}, {0, 1, 3}}, []int{0, 1, 2, 3}},
		{[]string{"a", "main", "b", "c"}, [][]int{{2}, nobody(), {3}, {0}}, [][]int{{0, 2, 3}, nobody(), {0, 2, 3}, {0, 2, 3}}, []int{1}},
	} {
		l := callers(x.names, x.calls...)
		if e := block.Check(l); e != api.OK {
			t.Fatal(x.names, x.calls, e)
		}
		for i, calls := range x.calls {
			want := slices.Compact(slices.Sorted(slices.Values(calls)))
			if got, e := block.Calls(l, i); !slices.Equal(got, want) || e != api.OK {
				t.Error(x.names, x.calls, i, got, e)
			}
			if got, e := block.Needs(l, i); !slices.Equal(got, x.needs[i]) || e != api.OK {
				t.Error(x.names, x.calls, i, got, e)
			}
		}
		var want []api.Block
		for _, i := range x.slim {
			want = append(want, l[i])
		}
		if slim, e := block.Slim(l); shown(slim) != shown(want) || e != api.OK {
			t.Error(x.names, x.calls, shown(slim), e)
		}
	}
}

// P8.5, P8.6: block numbers below 0 and above the last.
func TestNone(t *testing.T) {
	for _, s := range samples() {
		l := right(t, s)
		for _, number := range []int{-1, -2, len(l), len(l) + 1, least, greatest} {
			for name, e := range failed(t, l, number) {
				want := map[string]api.Errno{"Guards": api.ErrNone, "Uses": api.ErrNone, "Calls": api.ErrNone, "Needs": api.ErrNone}[name]
				if name == "Flow" && e == api.ErrState {
					continue // of a loop without a condition
				}
				if e != want {
					t.Error(s, number, name, e)
				}
			}
		}
	}
}

// P8.5, P8.6, R7: a program with the most blocks, one chain of calls.
func TestLongChain(t *testing.T) {
	names, calls := []string{"main"}, [][]int{{59}}
	for i := 1; i < api.MaxBlocks; i++ {
		names = append(names, fmt.Sprint("f", i))
		calls = append(calls, []int{i - 1})
	}
	calls[1] = nil
	l := callers(names, calls...)
	needs, e := block.Needs(l, 0)
	if want := numbered(60)[1:]; e != api.OK || !slices.Equal(needs, want) {
		t.Error(needs, e)
	}
	slim, e := block.Slim(l)
	if e != api.OK || shown(slim) != shown(l) {
		t.Error(len(slim), e)
	}
}

// P8.5, P8.6: random programs.
func TestUsesRandom(t *testing.T) {
	r := rand.New(rand.NewSource(5))
	smaller, itself := 0, 0
	for range 1500 {
		l := noisy(r, 12)
		for i, b := range l {
			u, e := block.Uses(l, i)
			if fmt.Sprint(u) != fmt.Sprint(wantUses(l, b)) || e != api.OK {
				t.Fatal(wantText(l), i, u, e)
			}
			calls, e := block.Calls(l, i)
			if !slices.Equal(calls, wantCalls(l, i)) || e != api.OK {
				t.Fatal(wantText(l), i, calls, e)
			}
			needs, e := block.Needs(l, i)
			if !slices.Equal(needs, wantNeeds(l, i)) || e != api.OK {
				t.Fatal(wantText(l), i, needs, e)
			}
			if slices.Contains(needs, i) && !slices.Contains(calls, i) {
				itself++
			}
		}
		slim, e := block.Slim(l)
		if shown(slim) != shown(wantSlim(l)) || e != api.OK {
			t.Fatal(wantText(l), shown(slim), e)
		}
		if len(slim) < len(l) {
			smaller++
		}
	}
	if smaller < 100 || itself < 20 {
		t.Error(smaller, itself)
	}
}
