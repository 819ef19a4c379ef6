package types_test

import (
	"fmt"
	"math/rand"
	"strings"

	"floodgate/api"
	"floodgate/lex"
	"floodgate/parse"
)

// name is something that is in sight, with its type.
type name struct{ text, kind string }

// sign is the name of an item, and its types.
type sign struct {
	text            string
	params, results []string
}

// grower makes random texts whose types are right, but where it errs.
type grower struct {
	r     *rand.Rand
	order *rand.Rand // the order of items and stmts
	err   int        // one expression out of so many has another type, if it is not 0
	names int
	signs []sign
}

// grown returns a tree that is made by seeds: one of what is in it, and one of its order.
func grown(seed, order int64, err int) (api.Tree, bool) {
	g := &grower{r: rand.New(rand.NewSource(seed)), order: rand.New(rand.NewSource(order)), err: err}
	x, _, e := parse.Parse(g.program())
	return x, e == api.OK
}

// trees yields so many random trees.
func trees(seed int64, many, err int) func(yield func(x api.Tree) bool) {
	return func(yield func(x api.Tree) bool) {
		for ; many > 0; seed += 1000 {
			x, ok := grown(seed, seed, err)
			if !ok {
				continue
			}
			if !yield(x) {
				return
			}
			many--
		}
	}
}

func (g *grower) program() string {
	for i := range 1 + g.r.Intn(4) {
		x := sign{text: l("main", "f", "g", "h")[i]}
		for range g.r.Intn(4) {
			x.params = append(x.params, g.kind(3))
		}
		for range 1 + g.r.Intn(3) {
			x.results = append(x.results, g.kind(2))
		}
		g.signs = append(g.signs, x)
	}
	var items []string
	for _, x := range g.signs {
		items = append(items, g.def(x))
	}
	g.shuffle(items)
	return strings.Join(items, "\n")
}

func (g *grower) shuffle(l []string) {
	g.order.Shuffle(len(l), func(i, j int) { l[i], l[j] = l[j], l[i] })
}

// kind is a type with a few parts.
func (g *grower) kind(deep int) string {
	if deep > 1 && g.r.Intn(3) == 0 {
		s := g.kind(deep - 1)
		return l("["+s+"]", "stream "+s)[g.r.Intn(2)]
	}
	return l("int", "bool")[g.r.Intn(2)]
}

// errs reports whether something is wrong here.
func (g *grower) errs() bool { return g.err > 0 && g.r.Intn(g.err) == 0 }

func (g *grower) fresh() string {
	g.names++
	return fmt.Sprintf("%c%d", 'a'+g.names%3, g.names)
}

func (g *grower) def(x sign) string {
	g.names = 0
	var scope []name
	var params []string
	for _, s := range x.params {
		p := name{g.fresh(), s}
		scope = append(scope, p)
		params = append(params, p.text+": "+s)
	}
	return "def " + x.text + "(" + strings.Join(params, ", ") + ") -> " + strings.Join(x.results, ", ") + " " + g.block(scope, x.results, 3)
}

// block gives values of these types. Stmts use those that were made before them, which may stand behind them.
func (g *grower) block(scope []name, gives []string, deep int) string {
	stmts, scope := g.stmts(scope, g.r.Intn(4), deep-1)
	return "{ " + stmts + "give " + g.gives(scope, gives, deep-1) + " }"
}

func (g *grower) stmts(scope []name, many, deep int) (string, []name) {
	var stmts []string
	for range many {
		var s string
		s, scope = g.stmt(scope, deep)
		stmts = append(stmts, s+"; ")
	}
	g.shuffle(stmts)
	return strings.Join(stmts, ""), scope
}

// stmt makes a stmt, and what is in sight behind it.
func (g *grower) stmt(scope []name, deep int) (string, []name) {
	var binds []string
	var made []name
	var gives []string
	for range 1 + g.r.Intn(8)/6 {
		n := name{g.fresh(), g.kind(3)}
		s := n.text
		if g.r.Intn(3) == 0 {
			s += ": " + n.kind
		}
		binds, made, gives = append(binds, s), append(made, n), append(gives, n.kind)
	}
	self := g.tied(made[0], scope, deep)
	if len(made) == 1 && self != "" && g.r.Intn(2) == 0 {
		s := made[0].text
		if !g.errs() {
			s += ": " + made[0].kind
		}
		return s + " = " + self, append(scope[:len(scope):len(scope)], made...)
	}
	if g.errs() {
		binds = append(binds, g.fresh())
	}
	return strings.Join(binds, ", ") + " = " + g.several(scope, gives, deep), append(scope[:len(scope):len(scope)], made...)
}

// tied is an expression that uses what it defines, if there is one of this type.
func (g *grower) tied(n name, scope []name, deep int) string {
	if s, ok := strings.CutPrefix(n.kind, "stream "); ok {
		return g.expr(scope, s, deep) + " :: " + n.text
	}
	if s, ok := strings.CutPrefix(n.kind, "["); ok {
		return "array(2, 2) { [0] = " + g.expr(scope, s[:len(s)-1], deep) + "; [1] = " + n.text + "[0] }"
	}
	return ""
}

// gives are exprs behind give: each has one type, or a single one all of them.
func (g *grower) gives(scope []name, kinds []string, deep int) string {
	if deep > 0 && g.r.Intn(3) == 0 {
		return g.several(scope, kinds, deep)
	}
	return g.each(scope, kinds, deep)
}

func (g *grower) each(scope []name, kinds []string, deep int) string {
	var l []string
	for _, s := range kinds {
		l = append(l, g.expr(scope, s, deep))
	}
	if g.errs() { // the first one is another one, and may give several values
		l = append([]string{g.call(scope, g.signs[g.r.Intn(len(g.signs))], 0)}, l[1:]...)
	}
	if g.errs() {
		l = append(l[1:], "1")
	}
	return strings.Join(l, ", ")
}

// several is an expression that has several types, or one.
func (g *grower) several(scope []name, kinds []string, deep int) string {
	for _, x := range g.signs {
		if deep > 0 && strings.Join(x.results, ",") == strings.Join(kinds, ",") && g.r.Intn(3) == 0 {
			return g.call(scope, x, deep)
		}
	}
	if len(kinds) == 1 && (deep <= 0 || g.r.Intn(4) > 0) {
		return g.expr(scope, kinds[0], deep)
	}
	if deep <= 0 {
		exprs := g.each(scope, kinds, 0)
		return "if true { give " + exprs + " } else { give " + exprs + " }"
	}
	if g.r.Intn(2) == 0 {
		return g.branch(scope, kinds, deep)
	}
	return g.loop(scope, kinds, deep)
}

func (g *grower) branch(scope []name, kinds []string, deep int) string {
	return "if " + g.expr(scope, "bool", deep-1) + " " + g.block(scope, kinds, deep-1) + " else " + g.block(scope, kinds, deep-1)
}

func (g *grower) call(scope []name, x sign, deep int) string {
	if len(x.params) == 0 {
		return x.text + "()"
	}
	return x.text + "(" + g.each(scope, x.params, deep-1) + ")"
}

func (g *grower) loop(scope []name, kinds []string, deep int) string {
	var inits, nexts []string
	inner := scope[:len(scope):len(scope)]
	for range 1 + g.r.Intn(2) {
		n := name{g.fresh(), g.kind(2)}
		inits = append(inits, n.text+" := "+g.expr(scope, n.kind, deep-1))
		inner = append(inner[:len(inner):len(inner)], n)
	}
	condition := g.expr(inner, "bool", deep-1)
	stmts, all := g.stmts(inner, g.r.Intn(3), deep-1)
	for _, n := range inner[len(scope):] {
		if g.r.Intn(2) == 0 {
			nexts = append(nexts, "next "+n.text+" = "+g.expr(all, n.kind, deep-1)+"; ")
		}
	}
	return "loop(" + strings.Join(inits, ", ") + ") while " + condition + " do { " + stmts + strings.Join(nexts, "") + "} give(" + g.gives(inner, kinds, deep-1) + ")"
}

// expr is an expression with one type, in brackets where it might need them.
func (g *grower) expr(scope []name, kind string, deep int) string {
	if g.errs() {
		kind = g.kind(3)
	}
	if deep <= 0 || g.r.Intn(4) == 0 {
		return g.leaf(scope, kind)
	}
	sub := func(kind string) string { return g.expr(scope, kind, deep-1) }
	switch g.r.Intn(10) {
	case 0:
		return g.branch(scope, l(kind), deep)
	case 1:
		return g.loop(scope, l(kind), deep)
	case 2:
		return "head(" + sub("stream "+kind) + ")"
	case 3:
		return "(" + sub("["+kind+"]") + ")[" + sub("int") + "]"
	case 4:
		for _, x := range g.signs {
			if len(x.results) == 1 && x.results[0] == kind {
				return g.call(scope, x, deep)
			}
		}
	}
	return g.made(scope, kind, deep, sub)
}

// made is an expression of a kind of its own for each type.
func (g *grower) made(scope []name, kind string, deep int, sub func(kind string) string) string {
	if s, ok := strings.CutPrefix(kind, "stream "); ok {
		return l("("+sub(s)+" :: "+sub(kind)+")", "tail("+sub(kind)+")", "nil("+s+")")[g.r.Intn(3)]
	}
	if s, ok := strings.CutPrefix(kind, "["); ok {
		span := g.fresh()
		inner := append(scope[:len(scope):len(scope)], name{span, "int"})
		return "array(" + sub("int") + ") { [0] = " + sub(s[:len(s)-1]) + "; [" + span + " in 1..# - 1] = " + g.expr(inner, s[:len(s)-1], deep-1) + " }"
	}
	if kind == "int" {
		op := l("+", "-", "*", "/", "%")[g.r.Intn(5)]
		return l("("+sub(kind)+" "+op+" "+sub(kind)+")", "(-"+sub(kind)+")", "size("+sub("["+g.kind(2)+"]")+")")[g.r.Intn(3)]
	}
	op := l("<", "<=", ">", ">=", "==", "!=")[g.r.Intn(6)]
	logic := l("and", "or", "==", "!=")[g.r.Intn(4)]
	return l("("+sub("int")+" "+op+" "+sub("int")+")", "("+sub(kind)+" "+logic+" "+sub(kind)+")", "(not "+sub(kind)+")", "empty("+sub("stream "+g.kind(2))+")")[g.r.Intn(4)]
}

// leaf is a short expression, a name if there is one that has the type.
func (g *grower) leaf(scope []name, kind string) string {
	var fit []string
	for _, n := range scope {
		if n.kind == kind {
			fit = append(fit, n.text)
		}
	}
	if len(fit) > 0 && g.r.Intn(5) > 0 {
		return fit[g.r.Intn(len(fit))]
	}
	if s, ok := strings.CutPrefix(kind, "stream "); ok {
		return "nil(" + s + ")"
	}
	if s, ok := strings.CutPrefix(kind, "["); ok {
		return "array(1) { [0] = " + g.leaf(scope, s[:len(s)-1]) + " }"
	}
	if kind == "int" {
		return fmt.Sprint(g.r.Intn(9))
	}
	return l("true", "false")[g.r.Intn(2)]
}

// spoiled is a text some of whose tokens are others, which could stand there as well.
func spoiled(r *rand.Rand, s string) string {
	tokens, _, _ := lex.Read(s)
	var names []string
	for _, x := range tokens {
		if x.Kind == api.NameToken {
			names = append(names, x.Text)
		}
	}
	for range 1 + r.Intn(3) {
		i := r.Intn(len(tokens))
		switch x := &tokens[i]; {
		case x.Kind == api.NumberToken || x.Text == "true" || x.Text == "false":
			x.Text = l("1", "true", names[r.Intn(len(names))])[r.Intn(3)]
		case x.Kind == api.NameToken:
			x.Text = names[r.Intn(len(names))]
		case x.Text == "int" || x.Text == "bool":
			x.Text = l("int", "bool")[r.Intn(2)]
		case x.Text == "head" || x.Text == "tail" || x.Text == "empty" || x.Text == "size":
			x.Text = l("head", "tail", "empty", "size")[r.Intn(4)]
		case x.Text == "+" || x.Text == "and" || x.Text == "<" || x.Text == "::":
			x.Text = l("+", "and", "<", "::", "==")[r.Intn(5)]
		case x.Text == ":" && i+2 < len(tokens) && tokens[i+2].Text == "=": // the type of a bind, if it has one part
			tokens = append(tokens[:i:i], tokens[i+2:]...)
		}
	}
	var texts []string
	for _, x := range tokens {
		texts = append(texts, x.Text)
	}
	return strings.Join(texts, " ")
}
