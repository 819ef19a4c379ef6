package parse

import (
	"slices"
	"strconv"

	"floodgate/api"
	"floodgate/lex"
)

// parser is a text that is read, and the tree of what was read of it.
type parser struct {
	api.Tree
	text      string
	tokens    []api.Lexeme // behind them an empty one, at the end of the text
	here      int          // the number of the token that is due
	failed    bool         // whether the grammar does not go on with this token
	operators map[string]operator
	prefixes  map[string]operator
	types     map[string]uint8
	words     map[string]func() int // how expressions are read that begin with a word
}

// newParser returns the parser of a text of which nothing was read yet, or the errors of its tokens.
func newParser(s string) (p *parser, at int, e api.Errno) {
	tokens, at, e := lex.Read(s)
	if e != api.OK {
		return nil, at, e
	}
	tokens = append(tokens, api.Lexeme{At: len(s)})
	p = &parser{text: s, tokens: tokens, operators: operators(), prefixes: prefixes(), types: typeWords()}
	p.words = p.wordReaders()
	return p, 0, api.OK
}

// now returns the token that is due. When reading has failed this is the empty one, with which every list ends.
func (p *parser) now() api.Lexeme {
	if p.failed {
		return api.Lexeme{}
	}
	return p.tokens[p.here]
}

// place returns where the token that is due stands, also when reading has failed there.
func (p *parser) place() int { return p.tokens[p.here].At }

// more reports whether there is an item to read.
func (p *parser) more() bool { return p.now().Kind != 0 }

// is reports whether the token that is due is one of these.
func (p *parser) is(texts ...string) bool { return slices.Contains(texts, p.now().Text) }

// take goes behind the token that is due if it fits; if it does not, reading has failed.
func (p *parser) take(fits bool) api.Lexeme {
	if !fits {
		p.failed = true
		return api.Lexeme{}
	}
	x := p.now()
	p.here++
	return x
}

// sign takes a sign or a word.
func (p *parser) sign(text string) api.Lexeme { return p.take(p.is(text)) }

func (p *parser) name() api.Lexeme { return p.take(p.now().Kind == api.NameToken) }

func (p *parser) number() int {
	x := p.take(p.now().Kind == api.NumberToken)
	// A number that is a token fits; without one this is 0.
	n, _ := strconv.Atoi(x.Text)
	return n
}

// add puts a node behind those that have ended, and returns its number.
func (p *parser) add(n api.TreeNode) int {
	p.Nodes = append(p.Nodes, n)
	return len(p.Nodes) - 1
}

// list reads parts with a sign between two of them. There are none if one of the words stands there that may end the list at once.
func (p *parser) list(between string, part func() int, ends ...string) []int {
	if p.is(ends...) {
		return nil
	}
	kids := []int{part()}
	for p.is(between) {
		p.sign(between)
		kids = append(kids, part())
	}
	return kids
}

// until reads parts up to one of the words that end them.
func (p *parser) until(part func() int, ends ...string) []int {
	var kids []int
	for !p.failed && !p.is(ends...) {
		kids = append(kids, part())
	}
	return kids
}

// ended makes of a reader one that has a semicolon behind what it reads.
func (p *parser) ended(part func() int) func() int {
	return func() int {
		node := part()
		p.sign(";")
		return node
	}
}

// item reads an item of the tree.
func (p *parser) item() {
	def := p.def()
	p.Items = append(p.Items, def)
}

// oversized returns the place of the first of the nodes from a number on that has not the sizes. The parser makes nodes with another flaw only when it fails.
func (p *parser) oversized(from int) (at int, ok bool) {
	f := newForm(p.Tree)
	for _, n := range p.Nodes[from:] {
		if !f.fits(n) {
			return n.At, true
		}
	}
	return 0, false
}

// flaw returns the flaw of the item that was read, whose nodes are those from a number on, and whether it has one.
func (p *parser) flaw(from int) (api.Flaw, bool) {
	if p.failed {
		return api.Flaw{At: p.place(), E: api.ErrForm}, true
	}
	at, ok := p.oversized(from)
	if !ok {
		return api.Flaw{}, false
	}
	return api.Flaw{At: at, E: api.ErrRange}, true
}

// flawed reads an item, and tells its flaw, if it has one: then it is left out of the tree, and the next item is due where the text recovers.
func (p *parser) flawed() (api.Flaw, bool) {
	start, nodes, items := p.here, len(p.Nodes), len(p.Items)
	p.item()
	f, ok := p.flaw(nodes)
	if ok {
		p.Nodes, p.Items = p.Nodes[:nodes], p.Items[:items]
		p.failed = false
		p.here = p.recovery(start, f.At)
	}
	return f, ok
}

// recovery returns the number of the first token that begins an item at the beginning of a line, behind a token, and not before a place; or that of the token at the end of the text.
func (p *parser) recovery(behind, place int) int {
	for i := behind + 1; i < len(p.tokens); i++ {
		if x := p.tokens[i]; x.Text == "def" && x.At >= place && p.text[x.At-1] == '\n' {
			return i
		}
	}
	return len(p.tokens) - 1
}
