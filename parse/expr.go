package parse

import "floodgate/api"

// expr reads an expression.
func (p *parser) expr() int { return p.operand(tightCons) }

// operand reads an expression that binds at least so tightly.
func (p *parser) operand(least int) int {
	left, tight := p.prefixed(least)
	for {
		op, ok := p.operators[p.now().Text]
		// An operator whose left operand must bind more tightly than what was read belongs to nothing here: a comparison has no other one as an operand.
		if !ok || op.tight < least || tight < op.left {
			return left
		}
		own := p.take(true)
		right := p.operand(op.right)
		left = p.add(api.TreeNode{Kind: op.kind, Kids: []int{left, right}, At: own.At})
		tight = op.tight
	}
}

// prefixed reads an expression that does not begin with a left operand, and tells how tightly it binds.
func (p *parser) prefixed(least int) (node, tight int) {
	op, ok := p.prefixes[p.now().Text]
	if !ok || op.tight < least {
		return p.post(), tightPost
	}
	own := p.take(true)
	kids := []int{p.operand(op.right)}
	return p.add(api.TreeNode{Kind: op.kind, Kids: kids, At: own.At}), op.tight
}

// post reads an atom, and the indices behind it.
func (p *parser) post() int {
	node := p.atom()
	for p.is("[") {
		own := p.sign("[")
		index := p.expr()
		p.sign("]")
		node = p.add(api.TreeNode{Kind: api.ReadNode, Kids: []int{node, index}, At: own.At})
	}
	return node
}

func (p *parser) atom() int {
	x := p.now()
	switch x.Kind {
	case api.NumberToken:
		n := p.number()
		return p.add(api.TreeNode{Kind: api.NumNode, N: n, At: x.At})
	case api.NameToken:
		return p.named()
	}
	if p.is("(") {
		p.sign("(")
		node := p.expr()
		p.sign(")")
		return node
	}
	if read, ok := p.words[x.Text]; ok {
		return read()
	}
	p.failed = true
	return 0
}

// named reads a name, or a call.
func (p *parser) named() int {
	own := p.name()
	if !p.is("(") {
		return p.add(api.TreeNode{Kind: api.NameNode, Text: own.Text, At: own.At})
	}
	p.sign("(")
	kids := p.list(",", p.expr, ")")
	p.sign(")")
	return p.add(api.TreeNode{Kind: api.CallNode, Text: own.Text, Kids: kids, At: own.At})
}

// wordReaders returns how expressions are read that begin with a word.
func (p *parser) wordReaders() map[string]func() int {
	m := map[string]func() int{
		"true":  p.boolean(1),
		"false": p.boolean(0),
		"nil":   p.bracketed(api.NilNode, p.typed),
		"if":    p.branch,
		"loop":  p.loop,
		"array": p.array,
	}
	for word, kind := range streamWords() {
		m[word] = p.bracketed(kind, p.expr)
	}
	return m
}

func (p *parser) boolean(n int) func() int {
	return func() int {
		own := p.take(true)
		return p.add(api.TreeNode{Kind: api.BoolNode, N: n, At: own.At})
	}
}

// bracketed returns how a word is read that has something in brackets behind it.
func (p *parser) bracketed(kind uint8, part func() int) func() int {
	return func() int {
		own := p.take(true)
		p.sign("(")
		kids := []int{part()}
		p.sign(")")
		return p.add(api.TreeNode{Kind: kind, Kids: kids, At: own.At})
	}
}

// branch reads an if.
func (p *parser) branch() int {
	own := p.sign("if")
	kids := []int{p.expr()}
	kids = append(kids, p.block())
	p.sign("else")
	kids = append(kids, p.block())
	return p.add(api.TreeNode{Kind: api.IfNode, Kids: kids, At: own.At})
}
