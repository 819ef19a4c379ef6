package parse_test

import (
	"fmt"
	"regexp"
	"slices"
	"strings"

	"floodgate/api"
	"floodgate/lex"
)

// grammar is the grammar of chapter 2 without braces and square brackets for what may be repeated, or left out. Phrases begin with a capital; an empty alternative is a dot.
const grammar = `
Program = . | Program Def
Def = def name ( Params ) -> Types Block
Params = . | Params1
Params1 = Param | Params1 , Param
Param = name : Type
Types = Type | Types , Type
Type = int | bool | [ Type ] | stream Type
Block = { Stmts give Exprs }
Stmts = . | Stmts Stmt ;
Stmt = Binds = Expr
Binds = Bind | Binds , Bind
Bind = name | name : Type
Exprs = Expr | Exprs , Expr
Args = . | Exprs
Expr = Or | Or :: Expr
Or = And | Or or And
And = Not | And and Not
Not = not Not | Comparison
Comparison = Sum | Sum Compare Sum
Compare = == | != | < | <= | > | >=
Sum = Term | Sum + Term | Sum - Term
Term = Unary | Term * Unary | Term / Unary | Term % Unary
Unary = - Unary | Post
Post = Atom | Post [ Expr ]
Atom = number | true | false | name | ( Expr ) | name ( Args ) | nil ( Type ) | Word ( Expr ) | if Expr Block else Block | Loop | array ( Expr Least ) { Parts }
Word = head | tail | empty | size
Loop = loop ( Inits ) while Expr do { Stmts Nexts } give ( Exprs )
Inits = Init | Inits , Init
Init = name := Expr
Nexts = . | Nexts next name = Expr ;
Least = . | , number
Parts = Cells | Parts ; Cells
Cells = [ Bound ] = Expr | [ name in Bound .. Bound Step ] = Expr
Step = . | by number
Bound = number | # | # - number
`

// rules returns the alternatives of each phrase.
func rules() map[string][][]string {
	m := map[string][][]string{}
	for _, line := range strings.Split(strings.TrimSpace(grammar), "\n") {
		left, right, _ := strings.Cut(line, " = ")
		for _, alternative := range strings.Split(right, " | ") {
			m[left] = append(m[left], strings.Fields(strings.TrimPrefix(alternative, ".")))
		}
	}
	return m
}

// state is a rule that was read up to a part, from a token on.
type state struct {
	left  string
	n     int // which alternative
	dot   int
	start int
}

// recognizer tells how far the grammar goes with tokens (as Earley has it).
type recognizer struct {
	rules map[string][][]string
	sets  [][]state
	seen  []map[state]bool
}

func newRecognizer() *recognizer {
	return &recognizer{rules: rules()}
}

func (z *recognizer) put(i int, s state) {
	if !z.seen[i][s] {
		z.seen[i][s] = true
		z.sets[i] = append(z.sets[i], s)
	}
}

func (z *recognizer) parts(s state) []string { return z.rules[s.left][s.n] }

// step puts what follows from a state into its set, and what follows with the next token into the next one.
func (z *recognizer) step(i int, s state, token string) {
	parts := z.parts(s)
	if s.dot == len(parts) {
		for _, up := range slices.Clone(z.sets[s.start]) {
			if p := z.parts(up); up.dot < len(p) && p[up.dot] == s.left {
				up.dot++
				z.put(i, up)
			}
		}
		return
	}
	x := parts[s.dot]
	on := s
	on.dot++
	for n, alternative := range z.rules[x] {
		z.put(i, state{x, n, 0, i})
		if len(alternative) == 0 {
			z.put(i, on)
		}
	}
	if x == token {
		z.put(i+1, on)
	}
}

// terminal is what the grammar has for a token.
func terminal(x api.Lexeme) string {
	switch x.Kind {
	case api.NameToken:
		return "name"
	case api.NumberToken:
		return "number"
	}
	return x.Text
}

// read returns how many tokens the grammar goes on with, and which beginnings of them are the phrase.
func (z *recognizer) read(phrase string, l []api.Lexeme) (good int, ends []int) {
	z.sets, z.seen = make([][]state, len(l)+2), nil
	for range z.sets {
		z.seen = append(z.seen, map[state]bool{})
	}
	for n := range z.rules[phrase] {
		z.put(0, state{phrase, n, 0, 0})
	}
	for i := range len(l) + 1 {
		token := ""
		if i < len(l) {
			token = terminal(l[i])
		}
		for k := 0; k < len(z.sets[i]); k++ {
			s := z.sets[i][k]
			z.step(i, s, token)
			if s.left == phrase && s.start == 0 && s.dot == len(z.parts(s)) {
				ends = append(ends, i)
			}
		}
		if len(z.sets[i+1]) == 0 {
			return i, ends
		}
	}
	return len(l), ends
}

// wrong returns where a text has its ErrForm, or -1.
func (z *recognizer) wrong(s string) int {
	l, _, _ := lex.Read(s)
	good, ends := z.read("Program", l)
	if good < len(l) {
		return l[good].At
	}
	if slices.Contains(ends, good) {
		return -1
	}
	return len(s)
}

// forms are the kids of each kind, as letters.
var forms = formOf()

func formOf() map[uint8]*regexp.Regexp {
	m := map[uint8]*regexp.Regexp{}
	for form, kinds := range map[string][]uint8{
		"":                      {api.NumNode, api.BoolNode, api.NameNode, api.BoundNode, api.IntType, api.BoolType},
		"ee":                    {api.ConsNode, api.OrNode, api.AndNode, api.EqNode, api.NeNode, api.LtNode, api.LeNode, api.GtNode, api.GeNode, api.AddNode, api.SubNode, api.MulNode, api.DivNode, api.ModNode, api.ReadNode},
		"e":                     {api.NotNode, api.NegNode, api.HeadNode, api.TailNode, api.EmptyNode, api.SizeNode, api.InitNode, api.NextNode},
		"t":                     {api.NilNode, api.ArrayType, api.StreamType, api.ParamNode},
		"e{0,5}":                {api.CallNode},
		"eBB":                   {api.IfNode},
		"I{1,5}eS{0,12}X{0,5}G": {api.LoopNode},
		"e[cs]{1,8}":            {api.ArrayNode},
		"S{0,12}e{1,4}":         {api.BlockNode},
		"b{1,4}e":               {api.SetNode},
		"t?":                    {api.BindNode},
		"e{1,4}":                {api.GiveNode},
		"oe":                    {api.CellNode},
		"ooe":                   {api.SpanNode},
		"p{0,5}t{1,4}B":         {api.DefItem},
	} {
		for _, k := range kinds {
			m[k] = regexp.MustCompile("^" + form + "$")
		}
	}
	return m
}

// letter is the letter of a kind.
func letter(kind uint8) string {
	switch {
	case kind >= 1 && kind <= 29:
		return "e"
	case kind >= 40 && kind <= 48:
		return "BSbIXGcso"[kind-40 : kind-39]
	case kind >= 60 && kind <= 63:
		return "t"
	case kind >= 64 && kind <= 65:
		return "pd"[kind-64 : kind-63]
	}
	return "?"
}

// checkAgain tells the error of a tree in another way than the package does.
func checkAgain(t api.Tree) api.Errno {
	if len(t.Nodes) > 700 || len(t.Items) > 20 {
		return api.ErrLimit
	}
	c := checker{t: t, ok: true}
	for _, item := range t.Items {
		if !c.has(item) || t.Nodes[item].Kind != api.DefItem {
			return api.ErrForm
		}
		c.walk(item, 1)
	}
	if !c.ok || c.next != len(t.Nodes) {
		return api.ErrForm
	}
	if c.deepest > 30 {
		return api.ErrLimit
	}
	return api.OK
}

type checker struct {
	t       api.Tree
	next    int // the node that must end next
	deepest int
	ok      bool
}

func (c *checker) has(node int) bool { return node >= 0 && node < len(c.t.Nodes) }

func (c *checker) walk(node, deep int) {
	c.deepest = max(c.deepest, deep)
	n, kids := c.t.Nodes[node], ""
	for _, kid := range n.Kids {
		if !c.ok || !c.has(kid) || kid >= node {
			c.ok = false
			return
		}
		c.walk(kid, deep+1)
		kids += letter(c.t.Nodes[kid].Kind)
	}
	form := forms[n.Kind]
	c.ok = c.ok && node == c.next && form != nil && form.MatchString(kids) && n.At >= 0 && n.At <= 2500 && textFits(n) && numberFits(n, kids)
	c.next++
}

func textFits(n api.TreeNode) bool {
	kind, e := lex.Kind(n.Text)
	switch n.Kind {
	case api.NameNode, api.CallNode, api.BindNode, api.InitNode, api.NextNode, api.SpanNode, api.ParamNode, api.DefItem:
		return e == api.OK && kind == api.NameToken
	case api.BoundNode:
		return n.Text == "" || n.Text == "#"
	}
	return n.Text == ""
}

func numberFits(n api.TreeNode, kids string) bool {
	first := map[uint8]string{api.DefItem: "p", api.BlockNode: "S", api.SetNode: "b", api.LoopNode: "I"}
	limits := map[uint8][2]int{api.NumNode: {0, 1000000000}, api.BoolNode: {0, 1}, api.ArrayNode: {0, 100}, api.BoundNode: {0, 100}, api.SpanNode: {1, 9}}
	if x, ok := first[n.Kind]; ok {
		return n.N == strings.Count(kids, x)
	}
	return n.N >= limits[n.Kind][0] && n.N <= limits[n.Kind][1]
}

// level is how tightly a kind binds, from the rows of the grammar.
func level(kind uint8) int {
	rows := [][]uint8{{api.ConsNode}, {api.OrNode}, {api.AndNode}, {api.NotNode}, {api.EqNode, api.NeNode, api.LtNode, api.LeNode, api.GtNode, api.GeNode}, {api.AddNode, api.SubNode}, {api.MulNode, api.DivNode, api.ModNode}, {api.NegNode}, {api.ReadNode}}
	if i := slices.IndexFunc(rows, func(l []uint8) bool { return slices.Contains(l, kind) }); i >= 0 {
		return i
	}
	return len(rows)
}

// shown prints a node in another way than the package does.
func shown(t api.Tree, node int) string {
	n := t.Nodes[node]
	var kids []string
	for _, kid := range n.Kids {
		kids = append(kids, shown(t, kid))
	}
	in := func(k, least int) string {
		if level(t.Nodes[n.Kids[k]].Kind) < least {
			return "(" + kids[k] + ")"
		}
		return kids[k]
	}
	own := level(n.Kind)
	switch n.Kind {
	case api.ConsNode:
		return in(0, own+1) + " :: " + in(1, own)
	case api.NotNode:
		return "not " + in(0, own)
	case api.NegNode:
		return "-" + in(0, own)
	case api.ReadNode:
		return in(0, own) + "[" + kids[1] + "]"
	}
	if n.Kind < api.ConsNode || n.Kind > api.ModNode {
		return shownPhrase(n, kids)
	}
	left := own
	if own == level(api.EqNode) {
		left++
	}
	signs := strings.Fields(":: or and == != < <= > >= + - * / %")
	return in(0, left) + " " + signs[n.Kind-api.ConsNode] + " " + in(1, own+1)
}

func commas(l []string) string { return strings.Join(l, ", ") }

func semicolons(l []string) string { return strings.Join(append(slices.Clone(l), ""), "; ") }

// more is a number with a word or sign before it, if it is not the one that is left out.
func more(before string, n, without int) string {
	if n == without {
		return ""
	}
	return fmt.Sprint(before, n)
}

// shownPhrase prints a node that is no operation, from what its kids are.
func shownPhrase(n api.TreeNode, kids []string) string {
	last := len(kids) - 1
	switch n.Kind {
	case api.NumNode:
		return fmt.Sprint(n.N)
	case api.BoolNode:
		return fmt.Sprint(n.N == 1)
	case api.NameNode:
		return n.Text
	case api.HeadNode, api.TailNode, api.EmptyNode, api.SizeNode, api.NilNode:
		return strings.Fields("head tail empty size nil")[n.Kind-api.HeadNode] + "(" + kids[0] + ")"
	case api.CallNode:
		return n.Text + "(" + commas(kids) + ")"
	case api.IfNode:
		return "if " + kids[0] + " " + kids[1] + " else " + kids[2]
	case api.LoopNode:
		return "loop(" + commas(kids[:n.N]) + ") while " + kids[n.N] + " do { " + semicolons(kids[n.N+1:last]) + "} " + kids[last]
	case api.ArrayNode:
		return "array(" + kids[0] + more(", ", n.N, 0) + ") { " + strings.Join(kids[1:], "; ") + " }"
	case api.BlockNode:
		return "{ " + semicolons(kids[:n.N]) + "give " + commas(kids[n.N:]) + " }"
	case api.SetNode:
		return commas(kids[:last]) + " = " + kids[last]
	case api.BindNode, api.ParamNode:
		return strings.Join(append([]string{n.Text}, kids...), ": ")
	case api.InitNode:
		return n.Text + " := " + kids[0]
	case api.NextNode:
		return "next " + n.Text + " = " + kids[0]
	case api.GiveNode:
		return "give(" + commas(kids) + ")"
	case api.CellNode:
		return "[" + kids[0] + "] = " + kids[1]
	case api.SpanNode:
		return "[" + n.Text + " in " + kids[0] + ".." + kids[1] + more(" by ", n.N, 1) + "] = " + kids[2]
	case api.BoundNode:
		if n.Text == "#" {
			return "#" + more(" - ", n.N, 0)
		}
		return fmt.Sprint(n.N)
	case api.DefItem:
		return "def " + n.Text + "(" + commas(kids[:n.N]) + ") -> " + commas(kids[n.N:last]) + " " + kids[last]
	}
	return shownType(n, kids)
}

func shownType(n api.TreeNode, kids []string) string {
	switch n.Kind {
	case api.IntType:
		return "int"
	case api.BoolType:
		return "bool"
	case api.ArrayType:
		return "[" + kids[0] + "]"
	}
	return "stream " + kids[0]
}
