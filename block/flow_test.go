package block_test

import (
	"fmt"
	"math/rand"
	"slices"
	"strings"
	"testing"

	"floodgate/api"
	"floodgate/block"
)

// guardWord tells a guard: the outputs of its conditions, each with its arm.
func guardWord(g api.Guard) string {
	var l []string
	for _, c := range g {
		s := fmt.Sprintf("n%d.%d", c.From.Node, c.From.Out)
		if c.From.Node == -1 {
			s = fmt.Sprintf("p%d", c.From.Out)
		}
		l = append(l, s+map[bool]string{true: "+", false: "-"}[c.Arm])
	}
	return strings.Join(l, " ")
}

// guardWords tells the guards of a block: a word for each node, those of several outputs with a bar between them.
func guardWords(l [][]api.Guard) []string {
	var all []string
	for _, outs := range l {
		var own []string
		for _, g := range outs {
			own = append(own, guardWord(g))
		}
		all = append(all, strings.Join(own, " | "))
	}
	return all
}

// P8.3: the guards of the nodes of a block, or ErrState if some node has none.
func TestGuards(t *testing.T) {
	for _, x := range []struct {
		what  string
		nodes []string
		want  []string // nil: some node has no guard
	}{
		{"no nodes", nil, []string{}},
		{"no conditions", []string{"int 1 p0", "prim add n0 p1", "store p0 n0 n1", "gate n1 p0"}, []string{"", "", "", ""}},
		{"a parameter is a condition", []string{"switch p1 p0", "nil n0", "bool true n0.1", "store n0 n1 n1"}, []string{"p1+ | p1-", "p1+", "p1-", ""}},
		{"the trigger is a condition", []string{"switch p0 p0", "nil n0.1"}, []string{"p0+ | p0-", "p0-"}},
		{"a merge", []string{"switch p1 p0", "merge n0 n0.1", "prim add n1 p0"}, []string{"p1+ | p1-", "", ""}},
		{"a merge of what was made in the arms", []string{"bool true p0", "switch n0 p0", "switch n0 p1", "prim not n2", "nil n1.1", "merge n3 n4"}, []string{"", "n0.0+ | n0.0-", "n0.0+ | n0.0-", "n0.0+", "n0.0-", ""}},
		{"arms in the other order", []string{"switch p1 p0", "merge n0.1 n0"}, nil},
		{"the same arm twice", []string{"switch p1 p0", "merge n0 n0"}, nil},
		{"the other arm twice", []string{"switch p1 p0", "merge n0.1 n0.1"}, nil},
		{"an arm and a parameter", []string{"switch p1 p0", "merge n0 p0"}, nil},
		{"a parameter and an arm", []string{"switch p1 p0", "merge p0 n0.1"}, nil},
		{"no arms at all", []string{"merge p0 p1"}, nil},
		{"arms of different conditions", []string{"switch p1 p0", "switch p0 p0", "merge n0 n1.1"}, nil},
		{"arms in arms", []string{"switch p1 p0", "switch p1 p1", "switch n0 n1", "switch n1 n0"}, []string{"p1+ | p1-", "p1+ | p1-", "p1+ n0.0+ | p1+ n0.0-", "p1+ n1.0+ | p1+ n1.0-"}},
		{"merges of merges", []string{"switch p1 p0", "prim not n0", "switch n1 n0", "merge n2 n2.1", "merge n3 n0.1", "nil n4"}, []string{"p1+ | p1-", "p1+", "p1+ n1.0+ | p1+ n1.0-", "p1+", "", ""}},
		{"a merge over two conditions at once", []string{"switch p1 p0", "switch p1 p1", "switch n0 n1", "merge n2 n0.1"}, nil},
		{"a merge of one condition and two", []string{"switch p1 p0", "switch n0 n0", "merge n1 n0"}, nil},
		{"guards that differ in the first and the second condition", []string{"switch p0 p0", "switch p1 p1", "switch n0 n0", "switch n0.1 n0.1", "merge n2 n3.1"}, nil},
		{"guards that differ in the second condition too", []string{"switch p1 p0", "switch p1 p1", "nil p0", "gate n0 n1", "gate n0.1 n1.1", "switch n3 n3", "switch n4 n4", "merge n5 n6.1"}, nil},
		{"a condition that is the output of a switch", []string{"switch p1 p0", "switch n0 n0", "switch n0.1 n0.1", "merge n1 n1.1", "merge n2 n2.1", "merge n3 n4"}, []string{"p1+ | p1-", "p1+ n0.0+ | p1+ n0.0-", "p1- n0.1+ | p1- n0.1-", "p1+", "p1-", ""}},
		{"a condition that is the output of a merge", []string{"switch p1 p0", "merge n0 n0.1", "switch n1 p0", "merge n2 n2.1"}, []string{"p1+ | p1-", "", "n1.0+ | n1.0-", ""}},
		{"a switch by its own output", []string{"switch p1 p0", "switch p1 n0"}, nil},
		{"a switch by a condition of its value", []string{"switch p1 p0", "switch p1 p1", "switch n0 n1", "switch p1 n2"}, nil},
		{"a switch by a condition that is deeper", []string{"switch p1 p0", "switch n0 p0"}, nil},
		{"a condition twice, on one side", []string{"switch p1 p0", "switch p1 p1", "switch n0 n1", "switch n0 n1", "merge n2 n3.1"}, []string{"p1+ | p1-", "p1+ | p1-", "p1+ n0.0+ | p1+ n0.0-", "p1+ n0.0+ | p1+ n0.0-", "p1+"}},
		{"inputs in different arms", []string{"switch p1 p0", "switch p1 p1", "gate n0 n1.1"}, nil},
		{"one input in no arm", []string{"switch p1 p0", "gate n0 p0"}, nil},
		{"the second input in an arm", []string{"switch p1 p0", "gate p0 n0"}, nil},
		{"the third input in an arm", []string{"switch p1 p0", "store p0 p0 n0"}, nil},
		{"inputs by different conditions", []string{"switch p1 p0", "switch p0 p0", "gate n0 n1"}, nil},
		{"inputs by the same output of two switches", []string{"switch p1 p0", "switch p1 p1", "gate n0 n1"}, []string{"p1+ | p1-", "p1+ | p1-", "p1+"}},
		{"a node without an output", []string{"switch p1 p0", "store n0 n0.1 n0"}, nil},
		{"conditions ascend", []string{"nil p0", "bool true p0", "switch n1 n0", "switch n1 p1", "switch n1 p0", "switch n2 n3", "switch n5 n5", "switch n3 n2", "merge n7 n7.1"}, []string{"", "", "n1.0+ | n1.0-", "n1.0+ | n1.0-", "n1.0+ | n1.0-", "n1.0+ n2.0+ | n1.0+ n2.0-", "n1.0+ n2.0+ n5.0+ | n1.0+ n2.0+ n5.0-", "n1.0+ n3.0+ | n1.0+ n3.0-", "n1.0+"}},
		{"conditions ascend, if the greater one came first", []string{"nil p0", "nil p0", "switch n1 n0", "switch n1 p1", "merge n2 n2.1", "switch n4 n0", "switch n4 n1", "gate n5 n6", "prim eq n5 n6.1"}, nil},
		{"no node behind one without a guard counts", []string{"nil p0", "merge p0 p0", "nil n1", "switch n2 n2"}, nil},
	} {
		l := single("", x.nodes...)
		if e := block.Check(l); e != api.OK {
			t.Fatal(x.what, e)
		}
		g, e := block.Guards(l, 0)
		want := api.OK
		if x.want == nil {
			want = api.ErrState
		}
		if got := guardWords(g); !slices.Equal(got, x.want) || e != want {
			t.Errorf("%s: %q %v", x.what, got, e)
		}
	}
}

// P8.3: several outputs of one call as conditions, beside each other and one in the other.
func TestGuardsOfCalls(t *testing.T) {
	f := made("block f 1\n  exit p0 p0 p0\n")
	for _, x := range []struct{ nodes, want []string }{
		{[]string{"call f p0", "switch n0.2 n0.1", "switch n0.2 n0", "switch n1 n2", "switch n2 n1", "merge n3 n3.1", "merge n4 n4.1", "gate n5 n6"}, []string{" |  | ", "n0.2+ | n0.2-", "n0.2+ | n0.2-", "n0.2+ n1.0+ | n0.2+ n1.0-", "n0.2+ n2.0+ | n0.2+ n2.0-", "n0.2+", "n0.2+", "n0.2+"}},
		{[]string{"switch p1 p0", "call f n0.1", "switch n1.2 n1", "switch n1.1 n1.2", "merge n2 n2.1", "merge n3 n3.1", "prim add n4 n5"}, []string{"p1+ | p1-", "p1- | p1- | p1-", "p1- n1.2+ | p1- n1.2-", "p1- n1.1+ | p1- n1.1-", "p1-", "p1-", "p1-"}},
		{[]string{"call f p0", "switch n0.2 p0", "switch n0.1 p0", "merge n1 n2.1"}, nil},
		{[]string{"call f p0", "switch n0.2 p0", "switch n0 p0", "gate n1 n2"}, nil},
	} {
		l := append(single("", x.nodes...), f...)
		if g, e := block.Guards(l, 0); !slices.Equal(guardWords(g), x.want) || (e == api.OK) != (x.want != nil) {
			t.Errorf("%q %q %v", x.nodes, guardWords(g), e)
		}
	}
}

// P8.3: the chapter's example; a condition from a call in one of several blocks, and ErrNone.
func TestGuardsBlocks(t *testing.T) {
	l := right(t, power)
	for number, want := range [][]string{{"", "", "", ""}, {"", "", "n1.0+ | n1.0-", "n1.0+ | n1.0-", "n1.0+ | n1.0-", "n1.0+", "n1.0+", "n1.0+"}} {
		if g, e := block.Guards(l, number); e != api.OK || !slices.Equal(guardWords(g), want) {
			t.Errorf("%q %v", guardWords(g), e)
		}
	}
	for _, number := range []int{-1, 2, 3, least, greatest} {
		if g, e := block.Guards(l, number); len(g) != 0 || e != api.ErrNone {
			t.Error(number, g, e)
		}
	}
	// Another block without guards does not matter.
	l = append(l, made("block f 2\n  n0 = merge p0 p1\n  exit\n")...)
	for number, want := range []api.Errno{api.OK, api.OK, api.ErrState, api.ErrNone} {
		if g, e := block.Guards(l, number); e != want || (len(g) > 0) != (e == api.OK) {
			t.Error(number, g, e)
		}
	}
}

// P8.3: a guard of as many conditions as there can be, and merged again.
func TestGuardsDeep(t *testing.T) {
	const many = 200
	var nodes []string
	last := "p1"
	for i := range many {
		nodes = append(nodes, "switch "+last+" "+last)
		last = fmt.Sprintf("n%d", i)
	}
	for i := range many {
		nodes = append(nodes, fmt.Sprintf("merge %s n%d.1", last, many-1-i))
		last = fmt.Sprintf("n%d", many+i)
	}
	l := single(last, nodes...)
	g, e := block.Guards(l, 0)
	if e != api.OK || len(g[many-1][0]) != many || len(g[many-1][1]) != many || len(g[many][0]) != many-1 || len(g[2*many-1][0]) != 0 {
		t.Fatal(e)
	}
	if at, e := block.Flow(l); at != 0 || e != api.OK {
		t.Error(at, e)
	}
}

// P8.4: what must be so of functions and of loop blocks.
func TestFlow(t *testing.T) {
	loop := func(tail string) string {
		return "block l.0 2\n  n0 = nil p0\n  n1 = switch p1 p0\n  n2 = switch p1 p1\n  n3 = switch n0 n0\n  n4 = switch n2 n1\n  n5 = merge n4 n4.1\n" + tail
	}
	for _, x := range []struct {
		what, s string
		right   bool
	}{
		{"no exits", "block f 1\n  exit\n", true},
		{"parameters as exits", "block f 2\n  exit p1 p0\n", true},
		{"a merge as an exit", "block f 2\n  n0 = switch p1 p0\n  n1 = merge n0 n0.1\n  exit p0 n1\n", true},
		{"an arm as an exit", "block f 2\n  n0 = switch p1 p0\n  n1 = merge n0 n0.1\n  exit n0\n", false},
		{"the last exit an arm", "block f 2\n  n0 = switch p1 p0\n  n1 = merge n0 n0.1\n  exit p0 n1 n0.1\n", false},
		{"a node without a guard", "block f 2\n  n0 = merge p0 p1\n  exit\n", false},
		{"a store without a guard", "block f 2\n  n0 = switch p1 p0\n  n1 = store n0 p0 p0\n  exit\n", false},
		{"a loop", loop("  next n1 n2\n  exit n2.1\n"), true},
		{"a loop without exits", loop("  next n1 n2\n  exit\n"), true},
		{"several exits", loop("  next n1 n2\n  exit n2.1 n1.1 n1.1\n"), true},
		{"a merge in the arm as a next", loop("  next n5 n2\n  exit n2.1\n"), true},
		{"another condition for all", loop("  next n3 n3\n  exit n3.1\n"), true},
		{"nexts in the other arm", loop("  next n1.1 n2.1\n  exit n2\n"), false},
		{"all in the other arm", loop("  next n1.1 n2.1\n  exit n2.1\n"), false},
		{"nexts in the other arm, no exits", loop("  next n1.1 n2.1\n  exit\n"), false},
		{"the first next in the other arm", loop("  next n1.1 n2\n  exit n2.1\n"), false},
		{"the last next in the other arm", loop("  next n1 n2.1\n  exit n2.1\n"), false},
		{"the first next in no arm", loop("  next n0 n2\n  exit n2.1\n"), false},
		{"the last next in no arm", loop("  next n1 p0\n  exit n2.1\n"), false},
		{"nexts in no arm", loop("  next p0 p1\n  exit n2.1\n"), false},
		{"nexts in no arm, no exits", loop("  next p0 p1\n  exit\n"), false},
		{"nexts by different conditions", loop("  next n1 n3\n  exit n2.1\n"), false},
		{"a next by a condition more", loop("  next n1 n4\n  exit n2.1\n"), false},
		{"the first next by a condition more", loop("  next n4 n1\n  exit n2.1\n"), false},
		{"all nexts by a condition more", loop("  next n4 n4\n  exit n2.1\n"), false},
		{"all nexts by a condition more, no exits", loop("  next n4 n4\n  exit\n"), false},
		{"an exit in the arm of the nexts", loop("  next n1 n2\n  exit n2\n"), false},
		{"the last exit in the arm of the nexts", loop("  next n1 n2\n  exit n2.1 n1\n"), false},
		{"an exit in no arm", loop("  next n1 n2\n  exit n0\n"), false},
		{"an exit that is a parameter", loop("  next n1 n2\n  exit n2.1 p0\n"), false},
		{"an exit by another condition", loop("  next n1 n2\n  exit n3.1\n"), false},
		{"an exit by a condition more", loop("  next n1 n2\n  exit n4.1\n"), false},
		{"a node without a guard in a loop", strings.Replace(loop("  next n1 n2\n  exit n2.1\n"), "merge n4 n4.1", "merge n4.1 n4", 1), false},
	} {
		const main = "block main 1\n  exit p0\n"
		for at, s := range []string{x.s + main, main + x.s, main + strings.Replace(main, "main", "g", 1) + x.s} {
			want := api.OK
			if !x.right {
				want = api.ErrState
			} else {
				at = 0
			}
			if number, e := block.Flow(right(t, s)); number != at || e != want {
				t.Error(x.what, at, number, e)
			}
		}
	}
}

// P8.4: the first block that is not as it must be.
func TestFlowFirst(t *testing.T) {
	const wrong, fine = "  n0 = switch p0 p0\n  exit n0\n", "  exit p0\n"
	for pattern := range 16 {
		s, first := "", -1
		for i, name := range []string{"f", "main", "g", "h"} {
			body := fine
			if pattern>>i&1 == 1 {
				body = wrong
				if first < 0 {
					first = i
				}
			}
			s += "block " + name + " 1\n" + body
		}
		want := api.OK
		if first >= 0 {
			want = api.ErrState
		}
		if number, e := block.Flow(right(t, s)); number != max(first, 0) || e != want {
			t.Error(pattern, number, e)
		}
	}
	l := right(t, power)
	if number, e := block.Flow(l); number != 0 || e != api.OK {
		t.Error(number, e)
	}
	l[1].Nodes[7].Ins = froms("p2", "p2")
	if number, e := block.Flow(l); number != 1 || e != api.ErrState {
		t.Error(number, e)
	}
}

// agree asks whether Guards and Flow of a program are what the oracle says, and tells whether the flow is right.
func agree(t *testing.T, l []api.Block) bool {
	t.Helper()
	for i, b := range l {
		g, e := block.Guards(l, i)
		want, has := wantGuards(l, b)
		if (e == api.OK) != has || !slices.Equal(guardWords(g), guardWords(want)) || !has && (e != api.ErrState || len(g) > 0) {
			t.Fatal(wantText(l), i, guardWords(g), e, guardWords(want))
		}
	}
	at, e := block.Flow(l)
	wantAt, want := wantFlow(l)
	if at != wantAt || e != want {
		t.Fatal(wantText(l), at, e, wantAt, want)
	}
	return e == api.OK
}

// P8.3, P8.4: all blocks with two parameters and up to three nodes that are switches, merges and gates, all of their outputs as Exits, and as Nexts and Exits.
func TestFlowAll(t *testing.T) {
	all, good := 0, 0
	b := api.Block{Name: "main", Params: 2}
	var grow func()
	grow = func() {
		outputs := []api.From{param(0), param(1)}
		for i, n := range b.Nodes {
			outputs = append(outputs, api.From{Node: i})
			if n.Op == api.NSwitch {
				outputs = append(outputs, api.From{Node: i, Out: 1})
			}
		}
		for _, f := range outputs {
			b.Exits = []api.From{f}
			all++
			if agree(t, []api.Block{b}) {
				good++
			}
		}
		if len(b.Nodes) == 3 {
			return
		}
		for _, op := range []uint8{api.NSwitch, api.NMerge, api.NGate} {
			for _, f := range outputs {
				for _, g := range outputs {
					if len(b.Nodes) == 2 && (f.Node != 1 && g.Node != 1) {
						continue // as if the second node were not there
					}
					b.Nodes = append(b.Nodes, api.Node{Op: op, Ins: []api.From{f, g}})
					grow()
					b.Nodes = b.Nodes[:len(b.Nodes)-1]
				}
			}
		}
	}
	grow()
	if good < 1000 || good > all/2 {
		t.Error(all, good)
	}
}

// P8.4: all loop blocks with two parameters and up to two switches, whatever their Nexts and Exits are.
func TestFlowLoops(t *testing.T) {
	all, good := 0, 0
	main := made("block main 1\n  exit\n")[0]
	for _, nodes := range [][]string{nil, {"switch p1 p0"}, {"switch p0 p1", "switch p1 p0"}, {"switch p1 p0", "switch p1 p1"}, {"switch p1 p0", "switch n0 n0"}, {"switch p1 p0", "switch n0.1 n0.1"}, {"switch p1 p0", "merge n0 n0.1"}} {
		b := single("", nodes...)[0]
		b.Name = "l.0"
		outputs := []api.From{param(0), param(1)}
		for i, s := range nodes {
			outputs = append(outputs, api.From{Node: i})
			if s[0] == 's' {
				outputs = append(outputs, api.From{Node: i, Out: 1})
			}
		}
		for _, first := range outputs {
			for _, second := range outputs {
				b.Nexts = []api.From{first, second}
				for _, exit := range outputs {
					for exits := range 3 {
						b.Exits = []api.From{exit, outputs[len(outputs)-1]}[:exits]
						all++
						if agree(t, []api.Block{main, b}) {
							good++
						}
					}
				}
			}
		}
	}
	if good < 50 || good > all/2 {
		t.Error(all, good)
	}
}

// P8.3, P8.4: random programs whose flow is right, and such in which some inputs come from somewhere else.
func TestFlowRandom(t *testing.T) {
	r := rand.New(rand.NewSource(3))
	wrong := 0
	for range 1500 {
		if l := grown(r, 25); wantCheck(l) == api.OK && !agree(t, l) {
			t.Fatal(wantText(l))
		}
		if !agree(t, noisy(r, 12)) {
			wrong++
		}
	}
	if wrong < 500 || wrong > 1450 {
		t.Error(wrong)
	}
}
