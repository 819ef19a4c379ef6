package parse

import "floodgate/api"

func (p *parser) def() int {
	own := p.sign("def")
	name := p.name()
	p.sign("(")
	kids := p.list(",", p.param, ")")
	params := len(kids)
	p.sign(")")
	p.sign("->")
	kids = append(kids, p.list(",", p.typed)...)
	kids = append(kids, p.block())
	return p.add(api.TreeNode{Kind: api.DefItem, Text: name.Text, N: params, Kids: kids, At: own.At})
}

func (p *parser) param() int {
	own := p.name()
	p.sign(":")
	kids := []int{p.typed()}
	return p.add(api.TreeNode{Kind: api.ParamNode, Text: own.Text, Kids: kids, At: own.At})
}

// typed reads a type.
func (p *parser) typed() int {
	kind := p.types[p.now().Text]
	own := p.take(kind != 0)
	var kids []int
	if kind == api.ArrayType || kind == api.StreamType {
		kids = []int{p.typed()}
	}
	if kind == api.ArrayType {
		p.sign("]")
	}
	return p.add(api.TreeNode{Kind: kind, Kids: kids, At: own.At})
}

func (p *parser) block() int {
	own := p.sign("{")
	kids := p.until(p.ended(p.set), "give")
	sets := len(kids)
	p.sign("give")
	kids = append(kids, p.list(",", p.expr)...)
	p.sign("}")
	return p.add(api.TreeNode{Kind: api.BlockNode, N: sets, Kids: kids, At: own.At})
}

// set reads a statement.
func (p *parser) set() int {
	kids := p.list(",", p.bind)
	binds := len(kids)
	own := p.sign("=")
	kids = append(kids, p.expr())
	return p.add(api.TreeNode{Kind: api.SetNode, N: binds, Kids: kids, At: own.At})
}

func (p *parser) bind() int {
	own := p.name()
	var kids []int
	if p.is(":") {
		p.sign(":")
		kids = []int{p.typed()}
	}
	return p.add(api.TreeNode{Kind: api.BindNode, Text: own.Text, Kids: kids, At: own.At})
}

func (p *parser) loop() int {
	own := p.sign("loop")
	p.sign("(")
	kids := p.list(",", p.initial)
	inits := len(kids)
	p.sign(")")
	p.sign("while")
	kids = append(kids, p.expr())
	p.sign("do")
	p.sign("{")
	kids = append(kids, p.until(p.ended(p.set), "next", "}")...)
	kids = append(kids, p.until(p.ended(p.next), "}")...)
	p.sign("}")
	kids = append(kids, p.give())
	return p.add(api.TreeNode{Kind: api.LoopNode, N: inits, Kids: kids, At: own.At})
}

func (p *parser) initial() int {
	own := p.name()
	p.sign(":=")
	kids := []int{p.expr()}
	return p.add(api.TreeNode{Kind: api.InitNode, Text: own.Text, Kids: kids, At: own.At})
}

func (p *parser) next() int {
	own := p.sign("next")
	name := p.name()
	p.sign("=")
	kids := []int{p.expr()}
	return p.add(api.TreeNode{Kind: api.NextNode, Text: name.Text, Kids: kids, At: own.At})
}

// give reads what a loop gives.
func (p *parser) give() int {
	own := p.sign("give")
	p.sign("(")
	kids := p.list(",", p.expr)
	p.sign(")")
	return p.add(api.TreeNode{Kind: api.GiveNode, Kids: kids, At: own.At})
}

func (p *parser) array() int {
	own := p.sign("array")
	p.sign("(")
	kids := []int{p.expr()}
	least := 0
	if p.is(",") {
		p.sign(",")
		least = p.number()
	}
	p.sign(")")
	p.sign("{")
	kids = append(kids, p.list(";", p.cells)...)
	p.sign("}")
	return p.add(api.TreeNode{Kind: api.ArrayNode, N: least, Kids: kids, At: own.At})
}

// cells reads a part of an array: a cell, or a span of cells.
func (p *parser) cells() int {
	own := p.sign("[")
	n := api.TreeNode{Kind: api.CellNode, At: own.At}
	if p.now().Kind == api.NameToken {
		n = p.span(n)
	} else {
		n.Kids = []int{p.bound()}
	}
	p.sign("]")
	p.sign("=")
	n.Kids = append(n.Kids, p.expr())
	return p.add(n)
}

// span reads what a span has in its brackets.
func (p *parser) span(n api.TreeNode) api.TreeNode {
	n.Kind, n.Text, n.N = api.SpanNode, p.name().Text, 1
	p.sign("in")
	n.Kids = []int{p.bound()}
	p.sign("..")
	n.Kids = append(n.Kids, p.bound())
	if p.is("by") {
		p.sign("by")
		n.N = p.number()
	}
	return n
}

func (p *parser) bound() int {
	n := api.TreeNode{Kind: api.BoundNode, At: p.place()}
	if !p.is("#") {
		n.N = p.number()
		return p.add(n)
	}
	n.Text = p.sign("#").Text
	if p.is("-") {
		p.sign("-")
		n.N = p.number()
	}
	return p.add(n)
}
