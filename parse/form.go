package parse

import (
	"slices"

	"floodgate/api"
	"floodgate/lex"
)

// part is kids of a node, one behind the other: of which sort they are, and how many there may be.
type part struct {
	sort     func(kind uint8) bool
	from, to int
}

// shape is what the grammar and the sizes say of the nodes of a kind.
type shape struct {
	parts    []part
	named    bool // Text is a name
	counts   bool // N is how many kids the first part has; otherwise it is in the limits
	from, to int
}

func isExpr(kind uint8) bool { return kind >= api.NumNode && kind <= api.ArrayNode }

func isType(kind uint8) bool { return kind >= api.IntType && kind <= api.StreamType }

// only is the sort of these kinds.
func only(kinds ...uint8) func(uint8) bool {
	return func(kind uint8) bool { return slices.Contains(kinds, kind) }
}

// exactly is a part with so many kids.
func exactly(n int, sort func(uint8) bool) part { return part{sort, n, n} }

// shapes returns what is said of each kind. No part has a sort of which the next one begins, so each takes all kids that it can have.
func shapes() map[uint8]shape {
	expr, bound, block := exactly(1, isExpr), only(api.BoundNode), only(api.BlockNode)
	sets := part{only(api.SetNode), 0, api.MaxStmts}
	gives := part{isExpr, 1, api.MaxGives}
	m := map[uint8]shape{
		api.NumNode:    {to: api.MaxNumber},
		api.BoolNode:   {to: 1},
		api.NameNode:   {named: true},
		api.NilNode:    {parts: []part{exactly(1, isType)}},
		api.CallNode:   {parts: []part{{isExpr, 0, api.MaxParams}}, named: true},
		api.IfNode:     {parts: []part{expr, exactly(2, block)}},
		api.LoopNode:   {parts: []part{{only(api.InitNode), 1, api.MaxInits}, expr, sets, {only(api.NextNode), 0, api.MaxInits}, exactly(1, only(api.GiveNode))}, counts: true},
		api.ArrayNode:  {parts: []part{expr, {only(api.CellNode, api.SpanNode), 1, api.MaxParts}}, to: api.MaxArray},
		api.BlockNode:  {parts: []part{sets, gives}, counts: true},
		api.SetNode:    {parts: []part{{only(api.BindNode), 1, api.MaxGives}, expr}, counts: true},
		api.BindNode:   {parts: []part{{isType, 0, 1}}, named: true},
		api.InitNode:   {parts: []part{expr}, named: true},
		api.NextNode:   {parts: []part{expr}, named: true},
		api.GiveNode:   {parts: []part{gives}},
		api.CellNode:   {parts: []part{exactly(1, bound), expr}},
		api.SpanNode:   {parts: []part{exactly(2, bound), expr}, named: true, from: 1, to: api.MaxStep},
		api.BoundNode:  {to: api.MaxArray},
		api.IntType:    {},
		api.BoolType:   {},
		api.ArrayType:  {parts: []part{exactly(1, isType)}},
		api.StreamType: {parts: []part{exactly(1, isType)}},
		api.ParamNode:  {parts: []part{exactly(1, isType)}, named: true},
		api.DefItem:    {parts: []part{{only(api.ParamNode), 0, api.MaxParams}, {isType, 1, api.MaxGives}, exactly(1, block)}, named: true, counts: true},
	}
	for _, op := range operators() {
		m[op.kind] = shape{parts: []part{exactly(2, isExpr)}}
	}
	m[api.ReadNode] = shape{parts: []part{exactly(2, isExpr)}}
	for _, op := range prefixes() {
		m[op.kind] = shape{parts: []part{expr}}
	}
	for _, kind := range streamWords() {
		m[kind] = shape{parts: []part{expr}}
	}
	return m
}

// form is a tree whose form is looked at.
type form struct {
	api.Tree
	shapes map[uint8]shape
	names  map[string]bool // which texts are names, as far as it was asked
}

func newForm(t api.Tree) form { return form{t, shapes(), map[string]bool{}} }

// right reports whether the tree has its form.
func (f form) right() bool {
	var open []int // the nodes so far that are no kids yet
	for i, n := range f.Nodes {
		rest := len(open) - len(n.Kids)
		// In their order, the kids of a node are the last ones of those; so each is a kid only once, and stands before the node.
		if rest < 0 || !slices.Equal(open[rest:], n.Kids) || !f.fits(n) {
			return false
		}
		open = append(open[:rest], i)
	}
	other := func(i int) bool { return f.Nodes[i].Kind != api.DefItem }
	return slices.Equal(open, f.Items) && !slices.ContainsFunc(open, other)
}

// fits reports whether a node has the shape of its kind. Its kids must be nodes.
func (f form) fits(n api.TreeNode) bool {
	s, ok := f.shapes[n.Kind]
	return ok && f.kidsFit(n, s) && f.textFits(n, s) && f.numberFits(n, s) && n.At >= 0 && n.At <= api.MaxText
}

func (f form) kidsFit(n api.TreeNode, s shape) bool {
	rest := n.Kids
	for _, x := range s.parts {
		many := f.many(rest, x.sort)
		if many < x.from || many > x.to {
			return false
		}
		rest = rest[many:]
	}
	return len(rest) == 0
}

func (f form) textFits(n api.TreeNode, s shape) bool {
	if s.named {
		return f.isName(n.Text)
	}
	return n.Text == "" || n.Text == "#" && n.Kind == api.BoundNode
}

func (f form) numberFits(n api.TreeNode, s shape) bool {
	if s.counts {
		return n.N == f.many(n.Kids, s.parts[0].sort)
	}
	return n.N >= s.from && n.N <= s.to
}

// many counts the kids at the beginning of a list that are of a sort.
func (f form) many(list []int, sort func(uint8) bool) int {
	many := 0
	for kid := range kids(f.Tree, list) {
		if !sort(kid.Kind) {
			break
		}
		many++
	}
	return many
}

// isName reports whether a text is a name. Names stand in a tree again and again, so it is remembered.
func (f form) isName(text string) bool {
	is, ok := f.names[text]
	if !ok {
		kind, e := lex.Kind(text)
		is = e == api.OK && kind == api.NameToken
		f.names[text] = is
	}
	return is
}
