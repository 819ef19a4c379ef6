package block_test

import (
	"math/rand"
	"slices"
	"testing"

	"floodgate/api"
	"floodgate/block"
)

// programs are random programs whose flow is right, the samples before them.
func programs(t *testing.T, seed int64, many, most int) [][]api.Block {
	t.Helper()
	r := rand.New(rand.NewSource(seed))
	var all [][]api.Block
	put := func(l []api.Block) {
		if at, e := block.Flow(l); e == api.OK && at == 0 {
			all = append(all, l)
		} else if e != api.ErrLimit {
			t.Fatal(wantText(l), at, e)
		}
	}
	for _, s := range []string{power, every, odd()[0], odd()[1], odd()[3], odd()[4], odd()[5]} {
		put(made(s))
	}
	for range many {
		put(grown(r, most))
	}
	return all
}

// conditions are the outputs by which the switches of a block decide.
func conditions(b api.Block) []api.From {
	var all []api.From
	for _, n := range b.Nodes {
		if n.Op == api.NSwitch && !slices.Contains(all, n.Ins[0]) {
			all = append(all, n.Ins[0])
		}
	}
	return all
}

// came is which outputs of a block come if all of its parameters do, and each condition takes the arm that is said.
func came(l []api.Block, b api.Block, arms map[api.From]bool) map[api.From]bool {
	there := map[api.From]bool{}
	for n := range b.Params {
		there[param(n)] = true
	}
	for i, n := range b.Nodes {
		many := 0
		for _, f := range n.Ins {
			if there[f] {
				many++
			}
		}
		fires := many == len(n.Ins) || n.Op == api.NMerge && many > 0
		for out := range wantOuts(l, n) {
			if fires && (n.Op != api.NSwitch || arms[n.Ins[0]] == (out == 0)) {
				there[api.From{Node: i, Out: out}] = true
			}
		}
	}
	return there
}

// count tells how many outputs of a list come.
func count(l []api.From, there map[api.From]bool) int {
	many := 0
	for _, f := range l {
		if there[f] {
			many++
		}
	}
	return many
}

// P8.8: whichever arms conditions take, each node gets all of its inputs or none, a merge one of two or none; each Exit of a function comes, of a loop all Nexts and no Exit, or all Exits and no Next. An output comes if the conditions of its guard do so.
func TestArms(t *testing.T) {
	r := rand.New(rand.NewSource(8))
	merges, turns, ends := 0, 0, 0
	for _, l := range programs(t, 88, 250, 20) {
		for i, b := range l {
			own := conditions(b)
			guards, _ := block.Guards(l, i)
			for pick := range min(1<<len(own), 200) {
				arms := map[api.From]bool{}
				for k, c := range own {
					arms[c] = pick>>k&1 == 1
					if len(own) > 7 {
						arms[c] = r.Intn(2) == 0
					}
				}
				there := came(l, b, arms)
				for at, n := range b.Nodes {
					many := count(n.Ins, there)
					if n.Op == api.NMerge && many == 1 {
						merges++
					} else if many != 0 && (n.Op == api.NMerge || many != len(n.Ins)) {
						t.Fatal(wantText(l), i, at, arms)
					}
					for out, g := range guards[at] {
						open := !slices.ContainsFunc(g, func(c api.Cond) bool { return arms[c.From] != c.Arm || !there[c.From] })
						if open != there[api.From{Node: at, Out: out}] {
							t.Fatal(wantText(l), i, at, out, g, arms)
						}
					}
				}
				nexts, exits := count(b.Nexts, there), count(b.Exits, there)
				switch {
				case len(b.Nexts) == 0:
					if exits != len(b.Exits) {
						t.Fatal(wantText(l), i, arms)
					}
				case nexts == len(b.Nexts) && exits == 0:
					turns++
				case nexts == 0 && exits == len(b.Exits):
					ends++
				default:
					t.Fatal(wantText(l), i, arms)
				}
			}
		}
	}
	if merges < 1000 || turns < 1000 || ends < 1000 {
		t.Error(merges, turns, ends)
	}
}

// P8.9: a guard has no condition twice, nor both arms of one; the guard of an output that is a condition in it is a part of it. Its conditions ascend (P8.3).
func TestGuarded(t *testing.T) {
	deep := 0
	for _, l := range programs(t, 9, 500, 30) {
		for i := range l {
			guards, e := block.Guards(l, i)
			if e != api.OK {
				t.Fatal(wantText(l), i, e)
			}
			of := func(f api.From) api.Guard {
				if f.Node == -1 {
					return nil
				}
				return guards[f.Node][f.Out]
			}
			for at, outs := range guards {
				for out, g := range outs {
					deep = max(deep, len(g))
					for k, c := range g {
						if k > 0 && (g[k-1].From.Node > c.From.Node || g[k-1].From.Node == c.From.Node && g[k-1].From.Out >= c.From.Out) {
							t.Fatal(wantText(l), i, at, out, g)
						}
						for _, d := range of(c.From) {
							if !slices.Contains(g, d) {
								t.Fatal(wantText(l), i, at, out, g)
							}
						}
					}
				}
			}
		}
	}
	if deep < 4 {
		t.Error(deep)
	}
}

// P8.10: Parse of the text of a program is the program; a text that is read is that of what Parse returns.
func TestTextAgain(t *testing.T) {
	r := rand.New(rand.NewSource(10))
	for _, l := range append(programs(t, 110, 500, 15), noisy(r, 20), noisy(r, 30), noisy(r, 40)) {
		s, e := block.Text(l)
		if e != api.OK {
			t.Fatal(shown(l), e)
		}
		again, e := block.Parse(s)
		if shown(again) != shown(l) || e != api.OK {
			t.Fatal(s, shown(again), e)
		}
		if text, e := block.Text(again); text != s || e != api.OK {
			t.Fatal(s, text, e)
		}
	}
}

// P8.11: a slim program has no error, its flow is right if that of the program is; slim again it stays as it is; main needs all of its other blocks.
func TestSlimAgain(t *testing.T) {
	r := rand.New(rand.NewSource(11))
	all := programs(t, 111, 500, 10)
	rights := len(all)
	for range 300 {
		all = append(all, noisy(r, 10))
	}
	smaller := 0
	for i, l := range all {
		slim, e := block.Slim(l)
		if e != api.OK || block.Check(slim) != api.OK {
			t.Fatal(wantText(l), e)
		}
		if _, e := block.Flow(slim); i < rights && e != api.OK {
			t.Fatal(wantText(l), e)
		}
		if again, e := block.Slim(slim); e != api.OK || shown(again) != shown(slim) {
			t.Fatal(wantText(l), e)
		}
		main := wantBlock(slim, "main")
		needs, e := block.Needs(slim, main)
		others := slices.DeleteFunc(append(needs, main), func(n int) bool { return n == main })
		if len(others) != len(slim)-1 || e != api.OK {
			t.Fatal(wantText(l), needs, e)
		}
		if len(slim) < len(l) {
			smaller++
		}
	}
	if smaller < 50 {
		t.Error(smaller)
	}
}

// P8.12: with the blocks in another order a program has no error, the same guards, and its flow is right or not as before.
func TestAnyOrder(t *testing.T) {
	r := rand.New(rand.NewSource(12))
	all := programs(t, 112, 300, 10)
	for range 300 {
		all = append(all, noisy(r, 10))
	}
	rights, wrongs := 0, 0
	for _, l := range all {
		order := r.Perm(len(l))
		var other []api.Block
		for _, i := range order {
			other = append(other, l[i])
		}
		if e := block.Check(other); e != api.OK {
			t.Fatal(wantText(l), e)
		}
		for now, before := range order {
			a, e := block.Guards(l, before)
			b, f := block.Guards(other, now)
			if e != f || !slices.Equal(guardWords(a), guardWords(b)) {
				t.Fatal(wantText(l), order, e, f)
			}
		}
		_, e := block.Flow(l)
		_, f := block.Flow(other)
		if e != f {
			t.Fatal(wantText(l), order, e, f)
		}
		if e == api.OK {
			rights++
		} else {
			wrongs++
		}
	}
	if rights < 100 || wrongs < 100 {
		t.Error(rights, wrongs)
	}
}
