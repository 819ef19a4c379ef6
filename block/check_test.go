package block_test

import (
	"math/rand"
	"strings"
	"testing"

	"floodgate/api"
	"floodgate/block"
)

// P8.1: lists that are programs.
func TestCheckPrograms(t *testing.T) {
	for _, s := range samples() {
		right(t, s)
	}
}

// P8.1: a node of each Op with as many inputs as the table says, one less and one more, and with none; with a Name, or an N, that must not be there, and without those that must.
func TestCheckNodes(t *testing.T) {
	rest := made("block f 2\n  exit p0 p1\nblock g.0 3\n  n0 = switch p1 p1\n  next n0 n0 n0\n  exit n0.1\n")
	try := func(n api.Node) api.Errno {
		b := single("", "int 3 p0", "bool true p0", "nil p0")
		b[0].Nodes = append(b[0].Nodes, n)
		return block.Check(append(b, rest...))
	}
	for s, name := range map[string]string{
		"int 0 p0": "", "bool true p0": "", "bool false p1": "", "nil n2": "", "switch n1 n0": "", "merge n0 n0": "", "gate n0 n1": "", "alloc n0": "", "store n0 n0 n0": "", "fetch n1 p0": "", "size p1": "", "isnil p1": "",
		"prim add p0 p0": "add", "prim sub p0 p0": "sub", "prim mul p0 p0": "mul", "prim div p0 p0": "div", "prim mod p0 p0": "mod", "prim lt p0 p0": "lt", "prim le p0 p0": "le", "prim eq p0 p0": "eq", "prim neg p0": "neg", "prim not p0": "not",
		"call f p0 p1": "f", "call main n0 n1": "main", "loop g.0 p1 n1 n2": "g.0",
	} {
		n := node(s)
		if e := try(n); e != api.OK {
			t.Error(s, e)
		}
		wrong := func(what string, n api.Node) {
			if e := try(n); e != api.ErrForm {
				t.Error(s, what, n, e)
			}
		}
		more, fewer, none := n, n, n
		more.Ins = append(more.Ins[:len(more.Ins):len(more.Ins)], param(0))
		fewer.Ins = fewer.Ins[1:]
		none.Ins = nil
		wrong("more", more)
		wrong("fewer", fewer)
		wrong("none", none)
		for _, other := range []string{"", "f", "main", "g.0", "add", "neg", "xor", "and", "int", "x", "Add", "add "} {
			if other == name || name != "" && len(n.Ins) == 2 && n.Op == api.NPrim && other == "add" || n.Op == api.NPrim && len(n.Ins) == 1 && other == "neg" || n.Op == api.NCall && (other == "f" || other == "main") {
				continue
			}
			named := n
			named.Name = other
			wrong("name", named)
		}
		for _, number := range []int{-1, 1, 2, 3, api.MaxNumber + 1, -api.MaxNumber - 1, least, greatest} {
			if n.Op == api.NInt && number*number <= 9 || n.Op == api.NBool && number == 1 {
				continue
			}
			numbered := n
			numbered.N = number
			wrong("number", numbered)
		}
	}
}

// P8.1, R7: integers and truths at both ends of what they may be.
func TestCheckNumbers(t *testing.T) {
	for _, x := range []struct {
		op   uint8
		n    int
		want api.Errno
	}{
		{api.NInt, api.MaxNumber, api.OK}, {api.NInt, api.MaxNumber + 1, api.ErrForm}, {api.NInt, -api.MaxNumber, api.OK}, {api.NInt, -api.MaxNumber - 1, api.ErrForm}, {api.NInt, least, api.ErrForm}, {api.NInt, greatest, api.ErrForm},
		{api.NBool, 0, api.OK}, {api.NBool, 1, api.OK}, {api.NBool, 2, api.ErrForm}, {api.NBool, -1, api.ErrForm}, {api.NNil, 0, api.OK}, {api.NNil, 1, api.ErrForm}, {api.NNil, -1, api.ErrForm},
	} {
		l := single("")
		l[0].Nodes = []api.Node{{Op: x.op, N: x.n, Ins: froms("p0")}}
		if e := block.Check(l); e != x.want {
			t.Error(x, e)
		}
	}
}

// P8.1, R8: Ops that there are not.
func TestCheckOps(t *testing.T) {
	for op := range 256 {
		if op >= int(api.NInt) && op <= int(api.NIsNil) {
			continue
		}
		for ins := range 4 {
			l := single("")
			l[0].Nodes = []api.Node{{Op: uint8(op), Ins: wide(param(0), ins)}}
			if e := block.Check(l); e != api.ErrForm {
				t.Error(op, ins, e)
			}
		}
	}
}

// P8.1: inputs, Nexts and Exits that are outputs, and such that are none.
func TestCheckOutputs(t *testing.T) {
	rest := "block none 1\n  exit\nblock two 1\n  exit p0 p0\nblock loop.0 1\n  n0 = switch p0 p0\n  next n0\n  exit n0.1 n0.1 n0.1\n"
	l := made("block main 2\n  n0 = switch p1 p1\n  n1 = store p0 p0 p0\n  n2 = call none p0\n  n3 = call two p0\n  n4 = loop loop.0 p0\n  n5 = nil p0\n  n6 = nil p0\n  n7 = nil p0\n  exit\n" + rest)
	outs := []int{2, 0, 0, 2, 3, 1, 1, 1}
	try := func(what string, f api.From, is bool, list *[]api.From) {
		kept := *list
		*list = []api.From{f}
		want := api.ErrForm
		if is {
			want = api.OK
		}
		if e := block.Check(l); e != want {
			t.Error(what, f, e)
		}
		*list = kept
	}
	for _, out := range []int{0, 1, 2, 3, -1, least, greatest} {
		for n := -3; n < 10; n++ {
			is := n == -1 && (out == 0 || out == 1) || n >= 0 && n < 8 && out >= 0 && out < outs[n]
			f := api.From{Node: n, Out: out}
			try("exit", f, is, &l[0].Exits)
			try("input of the last one", f, is && n < 7, &l[0].Nodes[7].Ins)
			try("input before others", f, is && n < 6, &l[0].Nodes[6].Ins)
			try("input of the first one", f, is && n < 5, &l[0].Nodes[5].Ins)
			try("next", f, n == -1 && out == 0 || n == 0 && (out == 0 || out == 1), &l[3].Nexts)
		}
		for _, n := range []int{least, greatest} {
			try("no node", api.From{Node: n, Out: out}, false, &l[0].Exits)
			try("no node", api.From{Node: n, Out: out}, false, &l[0].Nodes[7].Ins)
		}
	}
	for i := range 3 { // one of several
		ports := froms("p0", "p1", "n5")
		ports[i] = param(2)
		l[0].Exits = ports
		if e := block.Check(l); e != api.ErrForm {
			t.Error("exits", i, e)
		}
		l[0].Exits = nil
		l[0].Nodes[1].Ins = ports
		if e := block.Check(l); e != api.ErrForm {
			t.Error("inputs", i, e)
		}
		l[0].Nodes[1].Ins = froms("p0", "p0", "p0")
	}
}

// P8.1: Nexts that are as many as Params, fewer and more; Params below 1.
func TestCheckNexts(t *testing.T) {
	for params := -2; params < 13; params++ {
		for nexts := range 13 {
			l := append(made("block main 1\n  exit\n"), api.Block{Name: "l.0", Params: params, Nexts: wide(param(0), nexts)})
			want := api.OK
			if params < 1 || nexts > 0 && nexts != params {
				want = api.ErrForm
			}
			if e := block.Check(l); e != want {
				t.Error(params, nexts, e)
			}
		}
	}
	for _, params := range []int{least, 0} {
		if e := block.Check([]api.Block{{Name: "main", Params: params}}); e != api.ErrForm {
			t.Error(params, e)
		}
	}
}

// P8.1: names with each byte, at the beginning and behind it; of 0, 1, MaxNamed and more bytes.
func TestCheckNames(t *testing.T) {
	try := func(name string, is bool) {
		want := api.ErrForm
		if is {
			want = api.OK
		}
		if e := block.Check(append(made("block main 1\n  exit\n"), api.Block{Name: name, Params: 1})); e != want {
			t.Errorf("%q: %v", name, e)
		}
	}
	const letters, others = "abcdefghijklmnopqrstuvwxyz", "0123456789."
	for c := range 256 {
		s := string([]byte{byte(c)})
		letter := strings.Contains(letters, s)
		inside := letter || strings.Contains(others, s)
		try(s, letter)
		try(s+"x", letter)
		try("x"+s, inside)
		try("x"+s+"x", inside)
		try(strings.Repeat("x", 23)+s, inside)
	}
	for many, want := range map[int]bool{0: false, 1: true, 2: true, 23: true, 24: true, 25: false, 26: false, 500: false} {
		try(strings.Repeat("y", many), want)
	}
	try("mains", true)
	try("maïn", false)
	try("mai.", true)
	try("a..0", true)
}

// P8.1: of two blocks with the same name a call means the first one.
func TestCheckTwice(t *testing.T) {
	const one, two, loop = "block f 1\n  exit p0\n", "block f 2\n  exit p0 p0\n", "block f 1\n  n0 = switch p0 p0\n  next n0\n  exit n0.1\n"
	for _, x := range []struct {
		s    string
		want api.Errno
	}{
		{one + two + "block main 1\n  n0 = call f p0\n  exit n0\n", api.ErrTwice},
		{one + two + "block main 1\n  n0 = call f p0 p0\n  exit n0\n", api.ErrForm},
		{one + two + "block main 1\n  n0 = call f p0\n  exit n0.1\n", api.ErrForm},
		{two + one + "block main 1\n  n0 = call f p0 p0\n  exit n0.1\n", api.ErrTwice},
		{"block main 1\n  n0 = call f p0 p0\n  exit n0.1\n" + two + one, api.ErrTwice},
		{two + one + "block main 1\n  n0 = call f p0\n  exit n0\n", api.ErrForm},
		{one + loop + "block main 1\n  n0 = call f p0\n  exit n0\n", api.ErrTwice},
		{one + loop + "block main 1\n  n0 = loop f p0\n  exit n0\n", api.ErrForm},
		{loop + one + "block main 1\n  n0 = call f p0\n  exit n0\n", api.ErrForm},
		{loop + one + "block main 1\n  n0 = loop f p0\n  exit n0\n", api.ErrTwice},
		{"block main 1\n  exit\nblock main 1\n  exit\n", api.ErrTwice},
		{"block main 1\n  exit\nblock main 1\n  next p0\n  exit\n", api.ErrTwice},
		{one + one + one + "block main 1\n  exit\n", api.ErrTwice},
		{one + "block g 1\n  exit\n" + one, api.ErrTwice},
	} {
		if e := block.Check(made(x.s)); e != x.want {
			t.Errorf("%v\n%s", e, x.s)
		}
	}
}

// P8.1: no main, and a main that is a loop block.
func TestCheckMain(t *testing.T) {
	for _, l := range [][]api.Block{nil, {}, made("block f 1\n  exit\n"), made("block main.0 1\n  exit\nblock mai 1\n  exit\nblock mainx 1\n  exit\n"), made("block main 1\n  n0 = switch p0 p0\n  next n0\n  exit n0.1\n"), made("block f 1\n  n0 = loop main p0\n  exit\nblock main 1\n  next p0\n  exit\n")} {
		if e := block.Check(l); e != api.ErrState {
			t.Error(l, e)
		}
	}
}

// R7, P8.1: the greatest numbers of blocks, nodes, Params, Nexts and Exits, and one more of each.
func TestCheckLimits(t *testing.T) {
	blocks := func(many int) []api.Block {
		l := made("block main 1\n  exit\n")
		for i := range many - 1 {
			l = append(l, api.Block{Name: "b" + strings.Repeat("i", i/24) + string(rune('a'+i%24)), Params: 1})
		}
		return l
	}
	nodes := func(many ...int) []api.Block {
		l := blocks(len(many))
		for i, n := range many {
			for range n {
				l[i].Nodes = append(l[i].Nodes, node("nil p0"))
			}
		}
		return l
	}
	with := func(b api.Block) []api.Block { return append(blocks(1), b) }
	for i, x := range []struct {
		l    []api.Block
		want api.Errno
	}{
		{blocks(60), api.OK}, {blocks(61), api.ErrLimit}, {blocks(500), api.ErrLimit},
		{nodes(400), api.OK}, {nodes(401), api.ErrLimit}, {nodes(0, 400), api.OK}, {nodes(200, 100, 100), api.OK}, {nodes(200, 100, 101), api.ErrLimit}, {nodes(201, 100, 100), api.ErrLimit}, {nodes(0, 0, 401), api.ErrLimit},
		{with(api.Block{Name: "f", Params: 12}), api.OK}, {with(api.Block{Name: "f", Params: 13}), api.ErrLimit}, {with(api.Block{Name: "f", Params: greatest}), api.ErrLimit},
		{with(api.Block{Name: "f", Params: 1, Exits: wide(param(0), 12)}), api.OK}, {with(api.Block{Name: "f", Params: 1, Exits: wide(param(0), 13)}), api.ErrLimit},
		{with(api.Block{Name: "f", Params: 12, Nexts: wide(param(0), 12)}), api.OK}, {with(api.Block{Name: "f", Params: 12, Nexts: wide(param(0), 13)}), api.ErrLimit}, {with(api.Block{Name: "f", Params: 13, Nexts: wide(param(0), 13)}), api.ErrLimit},
	} {
		if e := block.Check(x.l); e != x.want {
			t.Error(i, e)
		}
	}
}

// R1, P8.1: ErrLimit, ErrForm, ErrTwice, ErrState, whatever comes first in the list; all functions with a list of blocks have them before their own.
func TestErrorOrder(t *testing.T) {
	limit, form := api.Block{Name: "l", Params: 13}, api.Block{Name: "L", Params: 1}
	twice, loop := api.Block{Name: "f", Params: 1}, made("block main 1\n  next p0\n  exit\n")[0]
	flow := made("block main 1\n  n0 = switch p0 p0\n  exit n0\n")[0]
	for _, x := range []struct {
		l    []api.Block
		want api.Errno
	}{
		{[]api.Block{loop, twice, twice, form, limit}, api.ErrLimit}, {[]api.Block{limit, form, twice, twice, loop}, api.ErrLimit},
		{[]api.Block{loop, twice, twice, form}, api.ErrForm}, {[]api.Block{form, twice, twice, loop}, api.ErrForm},
		{[]api.Block{loop, twice, twice}, api.ErrTwice}, {[]api.Block{twice, twice, loop}, api.ErrTwice},
		{[]api.Block{loop, twice}, api.ErrState}, {[]api.Block{twice}, api.ErrState},
		{[]api.Block{flow, limit}, api.ErrLimit}, {[]api.Block{flow, form}, api.ErrForm}, {[]api.Block{flow, twice, twice}, api.ErrTwice},
	} {
		if e := block.Check(x.l); e != x.want {
			t.Error(shown(x.l), e)
		}
		for _, number := range []int{0, len(x.l) - 1, -1, len(x.l), least, greatest} {
			for name, e := range failed(t, x.l, number) {
				if e != x.want {
					t.Error(shown(x.l), number, name, e)
				}
			}
		}
	}
}

// failed tells the errors of all functions with a list of blocks, and asks whether all of their other results are zero values then (but for the block of Flow).
func failed(t *testing.T, l []api.Block, number int) map[string]api.Errno {
	t.Helper()
	all := map[string]api.Errno{}
	put := func(name string, e api.Errno, zero bool) {
		t.Helper()
		all[name] = e
		if e != api.OK && !zero {
			t.Error(shown(l), number, name, e)
		}
	}
	inputs, e := block.Inputs(l)
	put("Inputs", e, inputs == 0)
	nodes, ins, e := block.Size(l)
	put("Size", e, nodes == 0 && ins == 0)
	guards, e := block.Guards(l, number)
	put("Guards", e, len(guards) == 0)
	at, e := block.Flow(l)
	put("Flow", e, at == 0 || e == api.ErrState)
	uses, e := block.Uses(l, number)
	put("Uses", e, len(uses) == 0)
	calls, e := block.Calls(l, number)
	put("Calls", e, len(calls) == 0)
	needs, e := block.Needs(l, number)
	put("Needs", e, len(needs) == 0)
	slim, e := block.Slim(l)
	put("Slim", e, len(slim) == 0)
	text, e := block.Text(l)
	put("Text", e, text == "")
	return all
}

// P8.1, R8: random programs, and such of which something was made another thing, once or several times.
func TestCheckRandom(t *testing.T) {
	r := rand.New(rand.NewSource(1))
	seen := map[api.Errno]int{}
	for range 6000 {
		l := noisy(r, 6)
		for range r.Intn(4) {
			l = spoil(r, l)
		}
		want := wantCheck(l)
		seen[want]++
		if e := block.Check(l); e != want {
			t.Fatal(shown(l), e, want)
		}
	}
	for _, e := range []api.Errno{api.OK, api.ErrLimit, api.ErrForm, api.ErrTwice, api.ErrState} {
		if seen[e] < 40 {
			t.Error(e, seen)
		}
	}
}

// P8.2: Outs by the table, of calls those of the first block with the Name.
func TestOuts(t *testing.T) {
	l := made("block f 1\n  exit\nblock g 1\n  exit p0 p0 p0\nblock f 1\n  exit p0\nblock l.0 1\n  n0 = switch p0 p0\n  next n0\n  exit n0.1 n0.1\nblock main 1\n  exit p0\n")
	for word, k := range ops() {
		if k.outs >= 0 {
			for _, n := range []api.Node{{Op: k.op}, {Op: k.op, Name: "g", N: 7, Ins: wide(param(-9), 5)}} {
				if outs := block.Outs(l, n); outs != k.outs {
					t.Error(word, outs)
				}
			}
		}
	}
	for name, want := range map[string]int{"f": 0, "g": 3, "l.0": 2, "main": 1, "": 0, "x": 0, "G": 0} {
		for _, op := range []uint8{api.NCall, api.NLoop} {
			if outs := block.Outs(l, api.Node{Op: op, Name: name}); outs != want {
				t.Error(op, name, outs)
			}
		}
	}
	for op := range 256 {
		if op < int(api.NInt) || op > int(api.NIsNil) {
			if outs := block.Outs(l, api.Node{Op: uint8(op), Name: "g"}); outs != 0 {
				t.Error(op, outs)
			}
		}
	}
}

// P8.2: Outs whatever else is wrong: more than there may be, names that are none, blocks twice, no blocks.
func TestOutsOfNoProgram(t *testing.T) {
	call := func(name string) api.Node { return api.Node{Op: api.NCall, Name: name} }
	l := make([]api.Block, 70)
	for i := range l {
		l[i] = api.Block{Name: strings.Repeat("B", i/2), Params: -i, Exits: wide(api.From{Node: 99, Out: -1}, i)}
	}
	for i := range 70 {
		if outs := block.Outs(l, call(strings.Repeat("B", i/2))); outs != i/2*2 {
			t.Error(i, outs)
		}
	}
	for _, l := range [][]api.Block{nil, {}} {
		if outs := block.Outs(l, call("")); outs != 0 {
			t.Error(outs)
		}
		if outs := block.Outs(l, api.Node{Op: api.NSwitch}); outs != 2 {
			t.Error(outs)
		}
	}
}

// P8.2: Inputs and Size.
func TestInputsSize(t *testing.T) {
	for _, x := range []struct {
		s                  string
		inputs, nodes, ins int
	}{
		{power, 1, 12, 21},
		{every, 1, 25, 40},
		{"block main 1\n  exit\n", 0, 0, 0},
		{"block f 3\n  n0 = nil p0\n  exit\nblock main 12\n  n0 = call f p0 p1 p2\n  n1 = store p0 p0 p0\n  exit\nblock g 7\n  exit\n", 11, 3, 7},
	} {
		l := made(x.s)
		inputs, e := block.Inputs(l)
		nodes, ins, f := block.Size(l)
		if inputs != x.inputs || e != api.OK || nodes != x.nodes || ins != x.ins || f != api.OK {
			t.Errorf("%d %v %d %d %v\n%s", inputs, e, nodes, ins, f, x.s)
		}
	}
}

// P8.2: Inputs, Size and Outs of random programs.
func TestInputsSizeRandom(t *testing.T) {
	r := rand.New(rand.NewSource(2))
	for range 500 {
		l := noisy(r, 12)
		wantNodes, wantIns := 0, 0
		for _, b := range l {
			wantNodes += len(b.Nodes)
			for _, n := range b.Nodes {
				wantIns += len(n.Ins)
				if outs := block.Outs(l, n); outs != wantOuts(l, n) {
					t.Fatal(shown(l), n, outs)
				}
			}
		}
		inputs, e := block.Inputs(l)
		nodes, ins, f := block.Size(l)
		if inputs != l[wantBlock(l, "main")].Params-1 || e != api.OK || nodes != wantNodes || ins != wantIns || f != api.OK {
			t.Fatal(shown(l), inputs, e, nodes, ins, f)
		}
	}
}
