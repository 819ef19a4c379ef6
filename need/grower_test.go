package need_test

import (
	"fmt"
	"math/rand"
	"strings"

	"floodgate/api"
	"floodgate/parse"
	"floodgate/region"
	"floodgate/types"
)

// name is something that is in sight, with its type. What is not ready can only be used where it is late.
type name struct {
	text, kind string
	ready      bool
	tied       bool // it can be used here alone because this is late
}

// sign is the name of an item, and its types; the first param of one with fuel is how often it may call itself.
type sign struct {
	text            string
	params, results []string
	fuel            bool
}

// grower makes random programs.
type grower struct {
	r     *rand.Rand
	order *rand.Rand // the order of stmts
	names int
	left  int // how many more expressions there may be, but short ones
	signs []sign
	flat  bool // no streams and arrays are made
	own   sign // the item that is made, which may call itself where it has fuel
	burns bool // it is where it has fuel
}

// grown returns a program that is made by seeds: one of what is in it, and one of its order. Not all of them are right.
func grown(seed, order int64, flat bool) (api.Tree, bool) {
	g := &grower{r: rand.New(rand.NewSource(seed)), order: rand.New(rand.NewSource(order)), flat: flat}
	g.left = 20 + g.r.Intn(100)
	x, _, e := parse.Parse(g.program())
	if e == api.OK {
		_, e = types.Check(x)
	}
	if e == api.OK {
		_, _, e = region.Check(x)
	}
	return x, e == api.OK
}

// trees yields so many random programs, and their seeds.
func trees(seed int64, many int, flat bool) func(yield func(seed int64, x api.Tree) bool) {
	return func(yield func(seed int64, x api.Tree) bool) {
		for ; many > 0; seed += 1000 {
			x, ok := grown(seed, seed, flat)
			if !ok {
				continue
			}
			if !yield(seed, x) {
				return
			}
			many--
		}
	}
}

// inputs are random inputs of the main of a program.
func inputs(r *rand.Rand, x api.Tree) api.Inputs {
	var in api.Inputs
	for _, item := range x.Items {
		if n := x.Nodes[item]; n.Text == "main" {
			for range n.N {
				var l []int
				for range r.Intn(4) {
					l = append(l, r.Intn(9)-2)
				}
				in.L, in.Closed = append(in.L, l), append(in.Closed, r.Intn(2) == 0)
			}
		}
	}
	return in
}

func (g *grower) pick(l ...string) string { return l[g.r.Intn(len(l))] }

// one reports whether the one of so many cases is there.
func (g *grower) one(of int) bool { return g.r.Intn(of) == 0 }

func (g *grower) program() string {
	for i := range 1 + g.r.Intn(4) {
		x := sign{text: []string{"main", "f", "g", "h"}[i]}
		switch {
		case i == 0:
			for range g.r.Intn(3) {
				x.params = append(x.params, "stream int")
			}
		case g.one(2):
			x.fuel = true
			x.params = append(x.params, "int")
		}
		for range g.r.Intn(3) * min(i, 1) {
			x.params = append(x.params, g.kind())
		}
		for range 1 + g.r.Intn(4-min(2*i, 2)) {
			x.results = append(x.results, g.kind())
		}
		g.signs = append(g.signs, x)
	}
	var items []string
	for _, x := range g.signs {
		items = append(items, g.def(x))
	}
	return strings.Join(items, "\n")
}

// kind is a type, often one that others have, too.
func (g *grower) kind() string {
	if g.flat {
		return g.pick("int", "int", "bool")
	}
	return g.pick("int", "int", "int", "int", "bool", "bool", "stream int", "stream int", "stream int", "[int]", "[int]", "stream bool", "stream stream int", "[stream int]", "stream [int]", "[[int]]")
}

func (g *grower) fresh() string {
	g.names++
	return fmt.Sprintf("%c%d", 'a'+g.names%3, g.names)
}

func (g *grower) def(x sign) string {
	g.names, g.own, g.burns = 0, x, false
	var scope []name
	var params []string
	for _, s := range x.params {
		p := name{text: g.fresh(), kind: s, ready: true}
		scope = append(scope, p)
		params = append(params, p.text+": "+s)
	}
	if x.text == "main" {
		return g.main(scope, params)
	}
	body := g.block(scope, x.results, 6)
	if x.fuel {
		g.burns = true
		body = "{ give if " + scope[0].text + " <= 0 " + body + " else " + g.block(scope, x.results, 5) + " }"
	}
	return "def " + x.text + "(" + strings.Join(params, ", ") + ") -> " + strings.Join(x.results, ", ") + " " + body
}

// main is an item that gives the values of some of its own names.
func (g *grower) main(scope []name, params []string) string {
	stmts, scope := g.stmts(scope, 2+g.r.Intn(5), 5)
	var gives, kinds []string
	for range 1 + g.r.Intn(4) {
		n := name{text: "1", kind: "int"}
		if len(scope) > 0 {
			n = scope[len(scope)-1-g.r.Intn(min(len(scope), 6))]
		}
		gives, kinds = append(gives, n.text), append(kinds, n.kind)
	}
	return "def main(" + strings.Join(params, ", ") + ") -> " + strings.Join(kinds, ", ") + " { " + stmts + "give " + strings.Join(gives, ", ") + " }"
}

// behind are names behind others, in new memory.
func behind(scope []name, more ...name) []name {
	return append(scope[:len(scope):len(scope)], more...)
}

// late is a scope where all can be used.
func late(scope []name) []name {
	var l []name
	for _, n := range scope {
		l = append(l, name{n.text, n.kind, true, n.tied || !n.ready})
	}
	return l
}

// inside is a scope in a loop: what is not ready outside is never so in it.
func inside(scope []name) []name {
	var l []name
	for _, n := range scope {
		if n.ready {
			l = append(l, n)
		}
	}
	return l
}

// block gives values of these types.
func (g *grower) block(scope []name, gives []string, deep int) string {
	stmts, scope := g.stmts(scope, g.r.Intn(min(5, max(g.left/4, 1))), deep-1)
	return "{ " + stmts + "give " + g.gives(scope, gives, deep-1) + " }"
}

// stmts are stmts each of which can use those before it at once, and all where it is late; they stand in another order.
func (g *grower) stmts(scope []name, many, deep int) (string, []name) {
	var all [][]name
	for range many {
		var l []name
		for range 1 + g.r.Intn(8)/6 {
			l = append(l, name{text: g.fresh(), kind: g.kind()})
		}
		all = append(all, l)
		scope = behind(scope, l...)
	}
	first := len(scope)
	for _, l := range all {
		first -= len(l)
	}
	var stmts []string
	for _, l := range all {
		stmts = append(stmts, g.stmt(scope, l, deep)+"; ")
		for range l {
			scope = behind(scope)
			scope[first].ready = true
			first++
		}
	}
	g.order.Shuffle(len(stmts), func(i, j int) { stmts[i], stmts[j] = stmts[j], stmts[i] })
	return strings.Join(stmts, ""), scope
}

func (g *grower) stmt(scope, made []name, deep int) string {
	var binds, kinds []string
	for _, n := range made {
		s := n.text
		if !g.one(8) {
			s += ": " + n.kind
		}
		binds, kinds = append(binds, s), append(kinds, n.kind)
	}
	return strings.Join(binds, ", ") + " = " + g.several(scope, kinds, deep)
}

// gives are exprs behind give: each has one type, or a single one all of them.
func (g *grower) gives(scope []name, kinds []string, deep int) string {
	if deep > 0 && g.one(3) {
		return g.several(scope, kinds, deep)
	}
	if g.one(2) {
		deep = 0
	}
	return g.each(scope, kinds, deep)
}

func (g *grower) each(scope []name, kinds []string, deep int) string {
	var l []string
	for _, s := range kinds {
		l = append(l, g.expr(scope, s, deep))
	}
	return strings.Join(l, ", ")
}

// several is an expression that has several types, or one.
func (g *grower) several(scope []name, kinds []string, deep int) string {
	if deep > 0 && g.one(3) {
		if s, ok := g.called(scope, kinds, deep); ok {
			return s
		}
	}
	if len(kinds) == 1 && !g.one(4) {
		return g.expr(scope, kinds[0], deep)
	}
	if deep <= 0 || g.left < 0 {
		return "if " + g.condition(scope, 0) + " { give " + g.each(scope, kinds, 0) + " } else { give " + g.each(scope, kinds, 0) + " }"
	}
	if g.one(2) {
		return g.branch(scope, kinds, deep)
	}
	return g.loop(scope, kinds, deep)
}

func (g *grower) branch(scope []name, kinds []string, deep int) string {
	return "if " + g.condition(scope, deep-1) + " " + g.block(scope, kinds, deep-1) + " else " + g.block(scope, kinds, deep-1)
}

// condition is a truth, often one that is bad.
func (g *grower) condition(scope []name, deep int) string {
	switch g.r.Intn(10) {
	case 0:
		return g.pick("1 / 0 == 0", "head(nil(int)) < 1", "not 1 / 0 == 2")
	case 1:
		return g.expr(scope, "int", 0) + g.pick(" / ", " % ") + g.expr(scope, "int", 0) + " < 1"
	}
	return g.expr(scope, "bool", deep)
}

// called is a call of an item with these types, if there is one that may be called here.
func (g *grower) called(scope []name, kinds []string, deep int) (string, bool) {
	for _, i := range g.r.Perm(len(g.signs)) {
		x := g.signs[i]
		if strings.Join(x.results, ",") != strings.Join(kinds, ",") || x.text == "main" {
			continue
		}
		self := x.text == g.own.text
		if x.text < g.own.text && g.own.text != "main" && !g.one(9) || self && !g.burns && !g.one(30) {
			continue
		}
		args := g.each(scope, x.params, deep-1)
		if x.fuel {
			fuel := fmt.Sprint(g.r.Intn(4))
			if self && g.burns {
				fuel = scope[0].text + " - 1"
			}
			args = fuel
			if len(x.params) > 1 {
				args += ", " + g.each(scope, x.params[1:], deep-1)
			}
		}
		return x.text + "(" + args + ")", true
	}
	return "", false
}

// loop is a loop, mostly with few turns.
func (g *grower) loop(scope []name, kinds []string, deep int) string {
	inner := inside(scope)
	first := len(inner)
	var inits, nexts []string
	condition := g.condition(inner, 0)
	if counter := g.fresh(); !g.one(5) {
		inits = append(inits, counter+" := "+fmt.Sprint(g.r.Intn(3)))
		nexts = append(nexts, "next "+counter+" = "+counter+" + 1; ")
		inner = behind(inner, name{text: counter, kind: "int", ready: true})
		condition = counter + " < " + fmt.Sprint(g.r.Intn(4)+1)
		if g.one(4) {
			condition = fmt.Sprint(6, " / (", g.r.Intn(4)+1, " - ", counter, ") < ", g.r.Intn(8))
		}
		first++
	}
	for range 1 + g.r.Intn(2) {
		n := name{text: g.fresh(), kind: g.kind(), ready: true}
		inits = append(inits, n.text+" := "+g.expr(scope, n.kind, deep-1))
		inner = behind(inner, n)
	}
	if g.one(5) {
		condition = g.condition(inner, deep-1) + " and " + condition
	}
	stmts, all := g.stmts(inner, g.r.Intn(min(3, max(g.left/4, 1))), deep-1)
	for _, n := range inner[first:] {
		if g.one(2) {
			nexts = append(nexts, "next "+n.text+" = "+g.expr(all, n.kind, deep-1)+"; ")
		}
	}
	return "loop(" + strings.Join(inits, ", ") + ") while " + condition + " do { " + stmts + strings.Join(nexts, "") + "} give(" + g.gives(inner, kinds, deep-1) + ")"
}

// expr is an expression with one type, in brackets where it might need them.
func (g *grower) expr(scope []name, kind string, deep int) string {
	g.left--
	if deep <= 0 || g.left < 0 || g.one(5) {
		return g.leaf(scope, kind)
	}
	sub := func(kind string) string { return g.expr(scope, kind, deep-1) }
	switch g.r.Intn(9) {
	case 0:
		return "(" + g.branch(scope, []string{kind}, deep) + ")"
	case 1:
		return "(" + g.loop(scope, []string{kind}, deep) + ")"
	case 2:
		if !g.flat {
			return "head(" + sub("stream "+kind) + ")"
		}
	case 3:
		if !g.flat {
			return "(" + sub("["+kind+"]") + ")[" + sub("int") + "]"
		}
	case 4:
		if s, ok := g.called(scope, []string{kind}, deep); ok {
			return s
		}
	}
	return g.made(scope, kind, deep, sub)
}

// made is an expression of a kind of its own for each type.
func (g *grower) made(scope []name, kind string, deep int, sub func(kind string) string) string {
	if s, ok := strings.CutPrefix(kind, "stream "); ok {
		if g.one(4) {
			return g.pick("tail("+sub(kind)+")", "nil("+s+")")
		}
		return "(" + g.expr(late(scope), s, deep-1) + " :: " + g.expr(late(scope), kind, deep-1) + ")"
	}
	if s, ok := strings.CutPrefix(kind, "["); ok {
		return g.array(scope, s[:len(s)-1], deep)
	}
	if kind == "int" {
		op := g.pick("+", "-", "*", "/", "%")
		size := "-" + sub(kind)
		if !g.flat {
			size = "size(" + sub("["+g.kind()+"]") + ")"
		}
		return g.pick("("+sub(kind)+" "+op+" "+sub(kind)+")", "("+sub(kind)+" "+op+" "+sub(kind)+")", "(-"+sub(kind)+")", size)
	}
	op := g.pick("<", "<=", ">", ">=", "==", "!=")
	logic := g.pick("and", "or", "==", "!=")
	is := "not " + sub(kind)
	if !g.flat {
		is = "empty(" + sub("stream "+g.kind()) + ")"
	}
	return g.pick("("+sub("int")+" "+op+" "+sub("int")+")", "("+sub(kind)+" "+logic+" "+sub(kind)+")", "(not "+sub(kind)+")", is)
}

// array is an array whose parts are right from its least size on.
func (g *grower) array(scope []name, kind string, deep int) string {
	size := fmt.Sprint(g.r.Intn(5))
	if g.one(4) {
		size = g.expr(scope, "int", deep-1)
	}
	inner := late(scope)
	expr := func() string { return g.expr(inner, kind, deep-1) }
	span := func(from, to string) string {
		i := name{text: g.fresh(), kind: "int", ready: true}
		return "[" + i.text + " in " + from + ".." + to + "] = " + g.expr(behind(inner, i), kind, deep-1)
	}
	switch g.r.Intn(5) {
	case 0:
		return "array(" + size + ") { " + span("0", "# - 1") + " }"
	case 1:
		return "array(" + size + ", 1) { [0] = " + expr() + "; " + span("1", "# - 1") + " }"
	case 2:
		return "array(" + size + ", 2) { [0] = " + expr() + "; [# - 1] = " + expr() + "; " + span("1", "# - 2") + " }"
	case 3:
		return "array(" + size + ") { " + span("1", "# - 1 by 2") + "; " + span("0", "# - 1 by 2") + " }"
	}
	return "array(" + size + ", 1) { " + span("0", "# - 2") + "; [# - 1] = " + expr() + " }"
}

// leaf is a short expression, a name if there is one that has the type.
func (g *grower) leaf(scope []name, kind string) string {
	var fit, tied []string
	for _, n := range scope {
		switch {
		case !n.ready:
		case n.kind == kind && n.tied:
			tied = append(tied, n.text)
		case n.kind == kind:
			fit = append(fit, n.text)
		case n.kind == "stream "+kind:
			fit = append(fit, "head("+n.text+")")
			if g.one(3) {
				fit = append(fit, "head(tail("+n.text+"))")
			}
		case n.kind == "["+kind+"]":
			fit = append(fit, n.text+"["+fmt.Sprint(g.r.Intn(3))+"]")
		}
	}
	if len(tied) > 0 && g.one(2) {
		return g.pick(tied...)
	}
	if fit = append(fit, tied...); len(fit) > 0 && !g.one(6) {
		return g.pick(fit...)
	}
	if s, ok := strings.CutPrefix(kind, "stream "); ok {
		if !g.one(4) && !g.flat {
			rest := "nil(" + s + ")"
			if g.one(2) {
				rest = g.leaf(late(scope), kind)
			}
			return "(" + g.leaf(late(scope), s) + " :: " + rest + ")"
		}
		return "nil(" + s + ")"
	}
	if s, ok := strings.CutPrefix(kind, "["); ok {
		return "array(" + fmt.Sprint(1+g.r.Intn(3)) + ") { [" + g.fresh() + " in 0..# - 1] = " + g.leaf(scope, s[:len(s)-1]) + " }"
	}
	if kind == "int" {
		return fmt.Sprint(g.r.Intn(7))
	}
	return g.pick("true", "false")
}
