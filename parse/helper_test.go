package parse_test

import (
	"fmt"
	"math/rand"
	"slices"
	"strings"
	"testing"

	"floodgate/api"
	"floodgate/lex"
	"floodgate/parse"
)

// kindWords are short words for the kinds, in their order.
func kindWords() map[uint8]string {
	m := map[uint8]string{}
	put := func(kind uint8, words string) {
		for i, w := range strings.Fields(words) {
			m[kind+uint8(i)] = w
		}
	}
	put(1, "num bool name cons or and eq ne lt le gt ge add sub mul div mod read not neg head tail empty size nil call if loop array")
	put(40, "block set bind init next give cell span bound")
	put(60, "inttype booltype arraytype streamtype param def")
	return m
}

// told writes nodes: word, text, number, kids, place.
func told(nodes []api.TreeNode) string {
	words := kindWords()
	var l []string
	for _, n := range nodes {
		s := words[n.Kind]
		if n.Text != "" {
			s += ":" + n.Text
		}
		if n.N != 0 {
			s += fmt.Sprint("=", n.N)
		}
		if len(n.Kids) > 0 {
			s += strings.ReplaceAll(fmt.Sprint(n.Kids), " ", ",")
		}
		l = append(l, fmt.Sprint(s, "@", n.At))
	}
	return strings.Join(l, " ")
}

func toldTree(t api.Tree) string { return fmt.Sprint(told(t.Nodes), " items ", t.Items) }

const before, after = "def f() -> int { give ", " }"

// def puts an expression into a def.
func def(s string) string { return before + s + after }

func tree(t *testing.T, s string) api.Tree {
	t.Helper()
	x, at, e := parse.Parse(s)
	if e != api.OK {
		t.Fatalf("%q %d %v", s, at, e)
	}
	return x
}

// expr returns the nodes of an expression alone, numbered from 0 on, with places in its own text.
func expr(t *testing.T, s string) []api.TreeNode {
	t.Helper()
	l := tree(t, def(s)).Nodes
	l = l[1 : len(l)-2]
	for i := range l {
		for k := range l[i].Kids {
			l[i].Kids[k]--
		}
		l[i].At -= len(before)
	}
	return l
}

// clone copies a tree; with room, each of its lists has room behind its end, with something in it.
func clone(t api.Tree, room int) api.Tree {
	numbers := func(l []int) []int {
		return append(slices.Clone(l), slices.Repeat([]int{-77}, room)...)[:len(l)]
	}
	nodes := slices.Clone(t.Nodes)
	for i := range nodes {
		nodes[i].Kids = numbers(nodes[i].Kids)
	}
	odd := api.TreeNode{Kind: 99, Text: "odd", N: -77, At: -77}
	return api.Tree{Nodes: append(nodes, slices.Repeat([]api.TreeNode{odd}, room)...)[:len(nodes)], Items: numbers(t.Items)}
}

// equal reports whether trees are equal, places and all.
func equal(a, b api.Tree) bool { return toldTree(a) == toldTree(b) }

// errorsOf are the errors of all functions with a tree, for the tree and for other arguments that are wrong. What is told together with an error must be nothing.
func errorsOf(t *testing.T, x api.Tree) map[string]api.Errno {
	t.Helper()
	m := map[string]api.Errno{"Check": parse.Check(x)}
	put := func(name string, nothing bool, e api.Errno) {
		m[name] = e
		if e != api.OK && !nothing {
			t.Error(name, "told something together with an error", e)
		}
	}
	text, e := parse.Print(x)
	put("Print", text == "", e)
	text, e = parse.Show(x, -1)
	put("Show", text == "", e)
	n, e := parse.Parent(x, -1)
	put("Parent", n == 0, e)
	n, e = parse.First(x, -1)
	put("First", n == 0, e)
	n, e = parse.Kin(x, -1, -1)
	put("Kin", n == 0, e)
	n, e = parse.Find(x, -1)
	put("Find", n == 0, e)
	other := api.Tree{Items: []int{5}}
	y, e := parse.Cut(x, -1)
	put("Cut", len(y.Nodes)+len(y.Items) == 0, e)
	y, e = parse.Join(x, other)
	put("Join", len(y.Nodes)+len(y.Items) == 0, e)
	y, e = parse.Join(api.Tree{}, x)
	put("Join behind", len(y.Nodes)+len(y.Items) == 0, e)
	same, e := parse.Same(x, other)
	put("Same", !same, e)
	same, e = parse.Same(api.Tree{}, x)
	put("Same behind", !same, e)
	return m
}

// grower makes a random tree, and a text of it at the same time: one in which operands stand in brackets, and gaps of all sorts between tokens.
type grower struct {
	r    *rand.Rand
	tree api.Tree
	text strings.Builder
	last string
}

// grown returns a tree in its limits, and a text of it.
func grown(r *rand.Rand, defs, deep int) (api.Tree, string) {
	for {
		g := &grower{r: r}
		for range r.Intn(defs + 1) {
			def := g.def(deep)
			g.tree.Items = append(g.tree.Items, def)
		}
		g.gap("")
		s := g.text.String()
		if l, _, e := lex.Read(s); e == api.OK && len(l) <= 900 && len(g.tree.Nodes) <= 700 {
			return g.tree, s
		}
	}
}

func (g *grower) gap(token string) {
	const loose = "()[]{},;"
	gaps := []string{" ", " ", " ", "\n", "  ", "~ def\n", "\n~\n "}
	if strings.Contains(loose, g.last) || strings.Contains(loose, token) {
		gaps = append(gaps, "", "", "", "", "", "", "")
	}
	g.text.WriteString(gaps[g.r.Intn(len(gaps))])
}

// put writes tokens, and returns the place of the first one.
func (g *grower) put(tokens ...string) int {
	at := -1
	for _, x := range tokens {
		g.gap(x)
		if at < 0 {
			at = g.text.Len()
		}
		g.text.WriteString(x)
		g.last = x
	}
	return at
}

func (g *grower) node(kind uint8, text string, n, at int, kids ...int) int {
	g.tree.Nodes = append(g.tree.Nodes, api.TreeNode{Kind: kind, Text: text, N: n, Kids: kids, At: at})
	return len(g.tree.Nodes) - 1
}

func (g *grower) pick(words ...string) string { return words[g.r.Intn(len(words))] }

func (g *grower) name() string { return g.pick("a", "b", "s", "x1", "abcdefghijkl", "iff", "in1") }

// many is mostly a small number, and sometimes a greater one.
func (g *grower) many(from, to int) int {
	if g.r.Intn(12) > 0 {
		to = min(to, from+2)
	}
	return from + g.r.Intn(to-from+1)
}

// list makes parts with a sign between them.
func (g *grower) list(n int, sign string, part func() int) []int {
	var l []int
	for i := range n {
		if i > 0 {
			g.put(sign)
		}
		l = append(l, part())
	}
	return l
}

func (g *grower) def(deep int) int {
	at, name := g.put("def"), g.name()
	g.put(name, "(")
	n := g.many(0, 5)
	kids := g.list(n, ",", func() int {
		name := g.name()
		at := g.put(name)
		g.put(":")
		return g.node(api.ParamNode, name, 0, at, g.typed())
	})
	g.put(")", "->")
	kids = append(kids, g.list(g.many(1, 4), ",", g.typed)...)
	kids = append(kids, g.block(deep))
	return g.node(api.DefItem, name, n, at, kids...)
}

func (g *grower) typed() int {
	switch g.r.Intn(6) {
	case 0:
		at := g.put("[")
		kid := g.typed()
		g.put("]")
		return g.node(api.ArrayType, "", 0, at, kid)
	case 1:
		at := g.put("stream")
		return g.node(api.StreamType, "", 0, at, g.typed())
	case 2:
		return g.node(api.BoolType, "", 0, g.put("bool"))
	}
	return g.node(api.IntType, "", 0, g.put("int"))
}

func (g *grower) block(deep int) int {
	at := g.put("{")
	n := g.many(0, 12)
	kids := g.sets(n, deep)
	g.put("give")
	kids = append(kids, g.list(g.many(1, 4), ",", func() int { return g.expr(deep - 1) })...)
	g.put("}")
	return g.node(api.BlockNode, "", n, at, kids...)
}

func (g *grower) sets(n, deep int) []int {
	var l []int
	for range n {
		binds := g.many(1, 4)
		kids := g.list(binds, ",", func() int {
			name := g.name()
			at := g.put(name)
			if g.r.Intn(2) == 0 {
				return g.node(api.BindNode, name, 0, at)
			}
			g.put(":")
			return g.node(api.BindNode, name, 0, at, g.typed())
		})
		at := g.put("=")
		kids = append(kids, g.expr(deep-1))
		g.put(";")
		l = append(l, g.node(api.SetNode, "", binds, at, kids...))
	}
	return l
}

// expr makes an expression, perhaps in brackets.
func (g *grower) expr(deep int) int {
	if g.r.Intn(6) == 0 {
		g.put("(")
		kid := g.expr(deep)
		g.put(")")
		return kid
	}
	if deep <= 0 || g.r.Intn(3) == 0 {
		return g.atom(deep)
	}
	return g.operation(deep)
}

// operand makes an atom, or an expression in brackets.
func (g *grower) operand(deep int) int {
	if deep <= 0 || g.r.Intn(3) == 0 {
		return g.atom(deep)
	}
	g.put("(")
	kid := g.expr(deep)
	g.put(")")
	return kid
}

func (g *grower) operation(deep int) int {
	signs := strings.Fields(":: or and == != < <= > >= + - * / %")
	switch n := g.r.Intn(20); n {
	case 17:
		array := g.operand(deep - 1)
		at := g.put("[")
		index := g.expr(deep - 1)
		g.put("]")
		return g.node(api.ReadNode, "", 0, at, array, index)
	case 18:
		at := g.put("not")
		return g.node(api.NotNode, "", 0, at, g.operand(deep-1))
	case 19:
		at := g.put("-")
		return g.node(api.NegNode, "", 0, at, g.operand(deep-1))
	default:
		n %= len(signs)
		left := g.operand(deep - 1)
		at := g.put(signs[n])
		right := g.operand(deep - 1)
		return g.node(api.ConsNode+uint8(n), "", 0, at, left, right)
	}
}

func (g *grower) atom(deep int) int {
	if deep <= 0 {
		return g.leaf()
	}
	switch g.r.Intn(9) {
	case 0:
		name := g.name()
		at := g.put(name)
		g.put("(")
		kids := g.list(g.many(0, 5), ",", func() int { return g.expr(deep - 1) })
		g.put(")")
		return g.node(api.CallNode, name, 0, at, kids...)
	case 1:
		at := g.put("nil")
		g.put("(")
		kid := g.typed()
		g.put(")")
		return g.node(api.NilNode, "", 0, at, kid)
	case 2, 3:
		n := g.r.Intn(4)
		at := g.put([]string{"head", "tail", "empty", "size"}[n])
		g.put("(")
		kid := g.expr(deep - 1)
		g.put(")")
		return g.node(api.HeadNode+uint8(n), "", 0, at, kid)
	case 4:
		at := g.put("if")
		kids := []int{g.expr(deep - 1), g.block(deep - 1)}
		g.put("else")
		return g.node(api.IfNode, "", 0, at, append(kids, g.block(deep-1))...)
	case 5:
		return g.loop(deep)
	case 6:
		return g.array(deep)
	}
	return g.leaf()
}

func (g *grower) leaf() int {
	switch g.r.Intn(4) {
	case 0:
		n := []int{0, 1, 7, 42, 1000000000}[g.r.Intn(5)]
		return g.node(api.NumNode, "", n, g.put(fmt.Sprint(n)))
	case 1:
		n := g.r.Intn(2)
		return g.node(api.BoolNode, "", n, g.put([]string{"false", "true"}[n]))
	}
	name := g.name()
	return g.node(api.NameNode, name, 0, g.put(name))
}

func (g *grower) loop(deep int) int {
	at := g.put("loop")
	g.put("(")
	n := g.many(1, 5)
	kids := g.list(n, ",", func() int {
		name := g.name()
		at := g.put(name)
		g.put(":=")
		return g.node(api.InitNode, name, 0, at, g.expr(deep-1))
	})
	g.put(")", "while")
	kids = append(kids, g.expr(deep-1))
	g.put("do", "{")
	kids = append(kids, g.sets(g.many(0, 12), deep-1)...)
	for range g.many(0, 5) {
		at, name := g.put("next"), g.name()
		g.put(name, "=")
		kid := g.expr(deep - 1)
		g.put(";")
		kids = append(kids, g.node(api.NextNode, name, 0, at, kid))
	}
	g.put("}")
	give := g.put("give")
	g.put("(")
	gives := g.list(g.many(1, 4), ",", func() int { return g.expr(deep - 1) })
	g.put(")")
	kids = append(kids, g.node(api.GiveNode, "", 0, give, gives...))
	return g.node(api.LoopNode, "", n, at, kids...)
}

func (g *grower) array(deep int) int {
	at, n := g.put("array"), 0
	g.put("(")
	kids := []int{g.expr(deep - 1)}
	if g.r.Intn(2) == 0 {
		n = g.r.Intn(101)
		g.put(",", fmt.Sprint(n))
	}
	g.put(")", "{")
	kids = append(kids, g.list(g.many(1, 8), ";", func() int { return g.part(deep) })...)
	g.put("}")
	return g.node(api.ArrayNode, "", n, at, kids...)
}

func (g *grower) part(deep int) int {
	at := g.put("[")
	if g.r.Intn(2) == 0 {
		bound := g.bound()
		g.put("]", "=")
		return g.node(api.CellNode, "", 0, at, bound, g.expr(deep-1))
	}
	name, step := g.name(), 1
	g.put(name, "in")
	from := g.bound()
	g.put("..")
	to := g.bound()
	if g.r.Intn(2) == 0 {
		step = 1 + g.r.Intn(9)
		g.put("by", fmt.Sprint(step))
	}
	g.put("]", "=")
	return g.node(api.SpanNode, name, step, at, from, to, g.expr(deep-1))
}

func (g *grower) bound() int {
	n := g.r.Intn(101)
	switch g.r.Intn(3) {
	case 0:
		return g.node(api.BoundNode, "#", 0, g.put("#"))
	case 1:
		return g.node(api.BoundNode, "#", n, g.put("#", "-", fmt.Sprint(n)))
	}
	return g.node(api.BoundNode, "", n, g.put(fmt.Sprint(n)))
}
