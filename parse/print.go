package parse

import "floodgate/api"

// node prints a node, as the grammar has it.
func (p *printer) node(node int) {
	n := p.Nodes[node]
	switch n.Kind {
	case api.NumNode:
		p.number(n.N)
	case api.BoolNode:
		p.boolean(n)
	case api.NameNode:
		p.put(n.Text)
	case api.NotNode, api.NegNode:
		p.prefixed(n)
	case api.ReadNode:
		p.read(n)
	case api.CallNode:
		p.put(n.Text)
		p.bracketed(n.Kids)
	case api.NilNode, api.HeadNode, api.TailNode, api.EmptyNode, api.SizeNode:
		p.put(p.words[n.Kind])
		p.bracketed(n.Kids)
	case api.IfNode:
		p.branch(n)
	case api.LoopNode:
		p.loop(n)
	case api.ArrayNode:
		p.array(n)
	case api.BlockNode, api.SetNode, api.InitNode, api.NextNode, api.GiveNode:
		p.statement(n)
	case api.CellNode, api.SpanNode, api.BoundNode:
		p.part(n)
	case api.IntType, api.BoolType, api.ArrayType, api.StreamType:
		p.typed(n)
	case api.BindNode, api.ParamNode:
		p.declared(n)
	case api.DefItem:
		p.def(n)
	default:
		p.binary(n)
	}
}

func (p *printer) boolean(n api.TreeNode) {
	if n.N == 0 {
		p.put("false")
		return
	}
	p.put("true")
}

// operand prints an expression that must bind at least so tightly, in brackets if it does not.
func (p *printer) operand(node, least int) {
	if p.tight(node) >= least {
		p.node(node)
		return
	}
	p.put("(")
	p.node(node)
	p.put(")")
}

// tight returns how tightly an expression binds.
func (p *printer) tight(node int) int {
	if op, ok := p.operators[p.Nodes[node].Kind]; ok {
		return op.tight
	}
	return tightPost
}

func (p *printer) binary(n api.TreeNode) {
	op := p.operators[n.Kind]
	p.operand(n.Kids[0], op.left)
	p.put(p.words[n.Kind])
	p.operand(n.Kids[1], op.right)
}

func (p *printer) prefixed(n api.TreeNode) {
	p.put(p.words[n.Kind])
	p.joined = n.Kind == api.NegNode
	p.operand(n.Kids[0], p.operators[n.Kind].right)
}

func (p *printer) read(n api.TreeNode) {
	p.operand(n.Kids[0], tightPost)
	p.join("[")
	p.node(n.Kids[1])
	p.put("]")
}

func (p *printer) branch(n api.TreeNode) {
	p.put("if")
	p.node(n.Kids[0])
	p.node(n.Kids[1])
	p.put("else")
	p.node(n.Kids[2])
}

func (p *printer) loop(n api.TreeNode) {
	inits, rest := n.Kids[:n.N], n.Kids[n.N:]
	last := len(rest) - 1
	p.put("loop")
	p.bracketed(inits)
	p.put("while")
	p.node(rest[0])
	p.put("do", "{")
	p.ended(rest[1:last])
	p.put("}")
	p.node(rest[last])
}

func (p *printer) array(n api.TreeNode) {
	p.put("array")
	p.join("(")
	p.node(n.Kids[0])
	if n.N != 0 {
		p.put(",")
		p.number(n.N)
	}
	p.put(")", "{")
	for i, part := range n.Kids[1:] {
		if i > 0 {
			p.put(";")
		}
		p.node(part)
	}
	p.put("}")
}

// statement prints a part of a block or a loop, or a block.
func (p *printer) statement(n api.TreeNode) {
	switch n.Kind {
	case api.BlockNode:
		p.put("{")
		p.ended(n.Kids[:n.N])
		p.put("give")
		p.list(n.Kids[n.N:])
		p.put("}")
	case api.SetNode:
		p.list(n.Kids[:n.N])
		p.put("=")
		p.node(n.Kids[n.N])
	case api.InitNode:
		p.put(n.Text, ":=")
		p.node(n.Kids[0])
	case api.NextNode:
		p.put("next", n.Text, "=")
		p.node(n.Kids[0])
	case api.GiveNode:
		p.put("give")
		p.bracketed(n.Kids)
	}
}

// part prints a part of an array, or a bound.
func (p *printer) part(n api.TreeNode) {
	switch n.Kind {
	case api.CellNode:
		p.put("[")
		p.node(n.Kids[0])
		p.put("]", "=")
		p.node(n.Kids[1])
	case api.SpanNode:
		p.put("[", n.Text, "in")
		p.node(n.Kids[0])
		p.join("..")
		p.joined = true
		p.node(n.Kids[1])
		if n.N != 1 {
			p.put("by")
			p.number(n.N)
		}
		p.put("]", "=")
		p.node(n.Kids[2])
	case api.BoundNode:
		p.bound(n)
	}
}

func (p *printer) bound(n api.TreeNode) {
	if n.Text == "" {
		p.number(n.N)
		return
	}
	p.put(n.Text)
	if n.N != 0 {
		p.put("-")
		p.number(n.N)
	}
}

func (p *printer) typed(n api.TreeNode) {
	p.put(p.words[n.Kind])
	if len(n.Kids) > 0 {
		p.node(n.Kids[0])
	}
	if n.Kind == api.ArrayType {
		p.put("]")
	}
}

// declared prints a name with its type, if it has one.
func (p *printer) declared(n api.TreeNode) {
	p.put(n.Text)
	if len(n.Kids) > 0 {
		p.put(":")
		p.node(n.Kids[0])
	}
}

func (p *printer) def(n api.TreeNode) {
	block := len(n.Kids) - 1
	p.put("def", n.Text)
	p.bracketed(n.Kids[:n.N])
	p.put("->")
	p.list(n.Kids[n.N:block])
	p.node(n.Kids[block])
}
