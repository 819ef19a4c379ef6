package block_test

import (
	"cmp"
	"regexp"
	"slices"
	"strconv"
	"strings"

	"floodgate/api"
)

// kind is a line of the chapter's table; ins and outs are -1 where the Name says how many there are.
type kind struct {
	op        uint8
	ins, outs int
}

// ops is the chapter's table, by words.
func ops() map[string]kind {
	return map[string]kind{
		"int": {api.NInt, 1, 1}, "bool": {api.NBool, 1, 1}, "nil": {api.NNil, 1, 1}, "prim": {api.NPrim, -1, 1},
		"switch": {api.NSwitch, 2, 2}, "merge": {api.NMerge, 2, 1}, "gate": {api.NGate, 2, 1},
		"call": {api.NCall, -1, -1}, "loop": {api.NLoop, -1, -1},
		"alloc": {api.NAlloc, 1, 1}, "store": {api.NStore, 3, 0}, "fetch": {api.NFetch, 2, 1}, "size": {api.NSize, 1, 1}, "isnil": {api.NIsNil, 1, 1},
	}
}

// operands are how many the operations of chapter 6 have.
func operands() map[string]int {
	return map[string]int{"add": 2, "sub": 2, "mul": 2, "div": 2, "mod": 2, "lt": 2, "le": 2, "eq": 2, "neg": 1, "not": 1}
}

// wordOf is the word of an Op and its line of the table.
func wordOf(op uint8) (string, kind) {
	for word, k := range ops() {
		if k.op == op {
			return word, k
		}
	}
	return "", kind{}
}

// wantBlock is the number of the first block with a name, -1 if there is none.
func wantBlock(l []api.Block, name string) int {
	return slices.IndexFunc(l, func(b api.Block) bool { return b.Name == name })
}

// wantOuts is how many outputs a node has.
func wantOuts(l []api.Block, n api.Node) int {
	_, k := wordOf(n.Op)
	if k.outs >= 0 {
		return k.outs
	}
	if i := wantBlock(l, n.Name); i >= 0 {
		return len(l[i].Exits)
	}
	return 0
}

// wantAll are all outputs of a block's parameters and first so many nodes.
func wantAll(l []api.Block, b api.Block, nodes int) map[api.From]bool {
	all := map[api.From]bool{}
	for n := range b.Params {
		all[param(n)] = true
	}
	for i, n := range b.Nodes[:nodes] {
		for out := range wantOuts(l, n) {
			all[api.From{Node: i, Out: out}] = true
		}
	}
	return all
}

// wantNode is whether a node has the Name, the N and as many inputs as the table says.
func wantNode(l []api.Block, n api.Node) bool {
	word, k := wordOf(n.Op)
	ins, named, numbered := k.ins, n.Name == "", n.N == 0
	switch word {
	case "":
		return false
	case "int":
		numbered = n.N <= 1000000000 && n.N >= -1000000000
	case "bool":
		numbered = n.N == 0 || n.N == 1
	case "prim":
		ins, named = operands()[n.Name]
	case "call", "loop":
		i := wantBlock(l, n.Name)
		if i < 0 {
			return false
		}
		ins, named = l[i].Params, (len(l[i].Nexts) > 0) == (word == "loop")
	}
	return named && numbered && len(n.Ins) == ins
}

// wantForm is whether a block is as it must be.
func wantForm(l []api.Block, b api.Block) bool {
	ok := regexp.MustCompile(`\A[a-z][a-z0-9.]{0,23}\z`).MatchString(b.Name) && b.Params >= 1
	ok = ok && (len(b.Nexts) == 0 || len(b.Nexts) == b.Params)
	for i, n := range b.Nodes {
		ok = ok && wantNode(l, n)
		for _, f := range n.Ins {
			ok = ok && wantAll(l, b, i)[f]
		}
	}
	for _, f := range slices.Concat(b.Exits, b.Nexts) {
		ok = ok && wantAll(l, b, len(b.Nodes))[f]
	}
	return ok
}

// wantCheck is the error of a list of blocks.
func wantCheck(l []api.Block) api.Errno {
	nodes, names := 0, map[string]bool{}
	limit, form, main := len(l) > 60, false, false
	for _, b := range l {
		nodes += len(b.Nodes)
		names[b.Name] = true
		limit = limit || b.Params > 12 || len(b.Nexts) > 12 || len(b.Exits) > 12
		main = main || b.Name == "main" && len(b.Nexts) == 0
	}
	if limit || nodes > 400 {
		return api.ErrLimit
	}
	for _, b := range l {
		form = form || !wantForm(l, b)
	}
	switch {
	case form:
		return api.ErrForm
	case len(names) < len(l):
		return api.ErrTwice
	case !main:
		return api.ErrState
	}
	return api.OK
}

// set is a guard without an order.
type set map[api.Cond]bool

// less is a set without a condition.
func (s set) less(c api.Cond) set {
	other := set{}
	for d := range s {
		if d != c {
			other[d] = true
		}
	}
	return other
}

func (s set) same(other set) bool {
	for c := range s {
		if !other[c] {
			return false
		}
	}
	return len(s) == len(other)
}

// guard lists a set.
func (s set) guard() api.Guard {
	var g api.Guard
	for c := range s {
		g = append(g, c)
	}
	slices.SortFunc(g, func(a, b api.Cond) int {
		arm := map[bool]int{true: 1}
		return cmp.Or(a.From.Node-b.From.Node, a.From.Out-b.From.Out, arm[a.Arm]-arm[b.Arm])
	})
	return g
}

// guarded looks for the guards of a block's nodes, from the outputs that are asked for back to the parameters.
type guarded struct {
	l     []api.Block
	b     api.Block
	nodes map[int]set // nil: there is none
}

func newGuarded(l []api.Block, b api.Block) guarded {
	return guarded{l: l, b: b, nodes: map[int]set{}}
}

// output is the guard of an output, nil if there is none.
func (g guarded) output(f api.From) set {
	if f.Node == -1 {
		return set{}
	}
	n, own := g.b.Nodes[f.Node], g.node(f.Node)
	if own == nil || n.Op != api.NSwitch {
		return own
	}
	c := api.Cond{From: n.Ins[0], Arm: f.Out == 0}
	with := own.less(c)
	with[c] = true
	return with
}

// node is the guard of a node, nil if there is none.
func (g guarded) node(i int) set {
	if s, known := g.nodes[i]; known {
		return s
	}
	g.nodes[i] = g.found(g.b.Nodes[i])
	return g.nodes[i]
}

func (g guarded) found(n api.Node) set {
	var ins []set
	for _, f := range n.Ins {
		s := g.output(f)
		if s == nil {
			return nil
		}
		ins = append(ins, s)
	}
	if n.Op == api.NMerge {
		return g.merged(ins[0], ins[1])
	}
	for _, s := range ins {
		if !s.same(ins[0]) {
			return nil
		}
	}
	if n.Op == api.NSwitch && (ins[0][api.Cond{From: n.Ins[0]}] || ins[0][api.Cond{From: n.Ins[0], Arm: true}]) {
		return nil
	}
	return ins[0]
}

// merged tries all outputs of the block as the condition of a merge.
func (g guarded) merged(a, b set) set {
	for f := range wantAll(g.l, g.b, len(g.b.Nodes)) {
		yes, no := api.Cond{From: f, Arm: true}, api.Cond{From: f}
		if rest := a.less(yes); a[yes] && b[no] && rest.same(b.less(no)) && !rest[yes] && !rest[no] {
			return rest
		}
	}
	return nil
}

// wantGuards are the guards of a block's outputs, and whether all nodes have one.
func wantGuards(l []api.Block, b api.Block) ([][]api.Guard, bool) {
	g := newGuarded(l, b)
	var all [][]api.Guard
	for i, n := range b.Nodes {
		if g.node(i) == nil {
			return nil, false
		}
		var outs []api.Guard
		for out := range wantOuts(l, n) {
			outs = append(outs, g.output(api.From{Node: i, Out: out}).guard())
		}
		all = append(all, outs)
	}
	return all, true
}

// wantRight is whether the flow of a block is right: it tries all outputs as the condition of a loop.
func wantRight(l []api.Block, b api.Block) bool {
	if _, has := wantGuards(l, b); !has {
		return false
	}
	g := newGuarded(l, b)
	under := func(s set, outputs []api.From) bool {
		for _, f := range outputs {
			if !g.output(f).same(s) {
				return false
			}
		}
		return true
	}
	if len(b.Nexts) == 0 {
		return under(set{}, b.Exits)
	}
	for f := range wantAll(l, b, len(b.Nodes)) {
		if under(set{{From: f, Arm: true}: true}, b.Nexts) && under(set{{From: f}: true}, b.Exits) {
			return true
		}
	}
	return false
}

// wantFlow is the first block whose flow is not right.
func wantFlow(l []api.Block) (int, api.Errno) {
	for i, b := range l {
		if !wantRight(l, b) {
			return i, api.ErrState
		}
	}
	return 0, api.OK
}

// wantUses is how often each output of a block is named.
func wantUses(l []api.Block, b api.Block) [][]int {
	count := func(f api.From) int {
		many := 0
		lists := [][]api.From{b.Nexts, b.Exits}
		for _, n := range b.Nodes {
			lists = append(lists, n.Ins)
		}
		for _, list := range lists {
			for _, other := range list {
				if other == f {
					many++
				}
			}
		}
		return many
	}
	var all [][]int
	for i := -1; i < len(b.Nodes); i++ {
		outs := b.Params
		if i >= 0 {
			outs = wantOuts(l, b.Nodes[i])
		}
		var own []int
		for out := range outs {
			own = append(own, count(api.From{Node: i, Out: out}))
		}
		all = append(all, own)
	}
	return all
}

// wantCalls are the blocks that a block calls.
func wantCalls(l []api.Block, block int) []int {
	var all []int
	for i, b := range l {
		if slices.ContainsFunc(l[block].Nodes, func(n api.Node) bool {
			return (n.Op == api.NCall || n.Op == api.NLoop) && n.Name == b.Name
		}) {
			all = append(all, i)
		}
	}
	return all
}

// wantNeeds are the blocks that a block needs: those to which ways of calls lead, of any length.
func wantNeeds(l []api.Block, block int) []int {
	ways := make([][]bool, len(l))
	for i := range l {
		ways[i] = make([]bool, len(l))
		for _, called := range wantCalls(l, i) {
			ways[i][called] = true
		}
	}
	for over := range l {
		for from := range l {
			for to := range l {
				ways[from][to] = ways[from][to] || ways[from][over] && ways[over][to]
			}
		}
	}
	var all []int
	for i, needed := range ways[block] {
		if needed {
			all = append(all, i)
		}
	}
	return all
}

// wantSlim are main and the blocks that it needs.
func wantSlim(l []api.Block) []api.Block {
	main := wantBlock(l, "main")
	var all []api.Block
	for i, b := range l {
		if i == main || slices.Contains(wantNeeds(l, main), i) {
			all = append(all, b)
		}
	}
	return all
}

// wantText is the text of blocks.
func wantText(l []api.Block) string {
	var s []string
	ports := func(all []api.From) string {
		var s string
		for _, f := range all {
			switch {
			case f.Node == -1:
				s += " p" + strconv.Itoa(f.Out)
			case f.Out == 0:
				s += " n" + strconv.Itoa(f.Node)
			default:
				s += " n" + strconv.Itoa(f.Node) + "." + strconv.Itoa(f.Out)
			}
		}
		return s + "\n"
	}
	for _, b := range l {
		s = append(s, "block ", b.Name, " ", strconv.Itoa(b.Params), "\n")
		for i, n := range b.Nodes {
			word, _ := wordOf(n.Op)
			s = append(s, "  n", strconv.Itoa(i), " = ", word)
			switch word {
			case "int":
				s = append(s, " ", strconv.Itoa(n.N))
			case "bool":
				s = append(s, " ", []string{"false", "true"}[n.N])
			case "prim", "call", "loop":
				s = append(s, " ", n.Name)
			}
			s = append(s, ports(n.Ins))
		}
		if len(b.Nexts) > 0 {
			s = append(s, "  next", ports(b.Nexts))
		}
		s = append(s, "  exit", ports(b.Exits))
	}
	return strings.Join(s, "")
}

// grammar is the form of texts, but for the numbers of nodes and what is no program.
func grammar() *regexp.Regexp {
	const (
		number = `(0|[1-9][0-9]*)`
		name   = `[a-z][a-z0-9.]*`
		ports  = `( (p` + number + `|n` + number + `(\.[1-9][0-9]*)?))`
		what   = `(int (0|-?[1-9][0-9]*)|bool (false|true)|(prim|call|loop) ` + name + `|nil|switch|merge|gate|alloc|store|fetch|size|isnil)`
	)
	return regexp.MustCompile(`\A(block ` + name + ` ` + number + `\n(  n` + number + ` = ` + what + ports + `*\n)*(  next` + ports + `+\n)?  exit` + ports + `*\n)+\z`)
}

// wantParse are the blocks with a text, and whether there are any.
func wantParse(g *regexp.Regexp, s string) ([]api.Block, bool) {
	if !g.MatchString(s) {
		return nil, false
	}
	at := 0
	for _, line := range strings.Split(strings.TrimSuffix(s, "\n"), "\n") {
		switch {
		case strings.HasPrefix(line, "block"):
			at = 0
		case strings.Contains(line, "="):
			if !strings.HasPrefix(line, "  n"+strconv.Itoa(at)+" ") {
				return nil, false
			}
			at++
		}
	}
	if regexp.MustCompile(`[0-9]{11}`).MatchString(regexp.MustCompile(`(block|prim|call|loop) [a-z0-9.]+`).ReplaceAllString(s, "")) {
		return nil, false
	}
	l := made(s)
	return l, wantCheck(l) == api.OK
}
