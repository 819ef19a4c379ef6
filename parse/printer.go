package parse

import (
	"strconv"
	"strings"

	"floodgate/api"
)

// printer is a tree whose nodes are printed.
type printer struct {
	api.Tree
	out       strings.Builder
	joined    bool               // no blank is put before the next token
	closing   map[string]bool    // the tokens that have no blank before them
	operators map[uint8]operator // those with one operand too
	words     map[uint8]string   // the words and signs of operators, and so on, by kinds
}

func newPrinter(t api.Tree) *printer {
	p := &printer{Tree: t, joined: true, closing: map[string]bool{")": true, "]": true, ",": true, ";": true, ":": true}}
	p.operators, p.words = map[uint8]operator{}, map[uint8]string{api.NilNode: "nil"}
	for _, all := range []map[string]operator{operators(), prefixes()} {
		for text, op := range all {
			p.operators[op.kind], p.words[op.kind] = op, text
		}
	}
	for _, all := range []map[string]uint8{streamWords(), typeWords()} {
		for text, kind := range all {
			p.words[kind] = text
		}
	}
	return p
}

// put prints tokens.
func (p *printer) put(tokens ...string) {
	for _, x := range tokens {
		if !p.joined && !p.closing[x] {
			p.out.WriteByte(' ')
		}
		p.out.WriteString(x)
		p.joined = x == "(" || x == "["
	}
}

// join prints a token directly behind the last one.
func (p *printer) join(token string) {
	p.joined = true
	p.put(token)
}

// feed ends a line.
func (p *printer) feed() {
	p.out.WriteByte('\n')
	p.joined = true
}

func (p *printer) number(n int) { p.put(strconv.Itoa(n)) }

// list prints nodes with commas between them.
func (p *printer) list(nodes []int) {
	for i, node := range nodes {
		if i > 0 {
			p.put(",")
		}
		p.node(node)
	}
}

// bracketed prints nodes in brackets directly behind the last token.
func (p *printer) bracketed(nodes []int) {
	p.join("(")
	p.list(nodes)
	p.put(")")
}

// ended prints nodes with a semicolon behind each.
func (p *printer) ended(nodes []int) {
	for _, node := range nodes {
		p.node(node)
		p.put(";")
	}
}
