package need

import "floodgate/api"

func (r *run) and(c *context, n api.TreeNode) api.Value {
	condition := r.value(c, n.Kids[0], 0)
	if condition == truth(1) {
		return r.value(c, n.Kids[1], 0)
	}
	if condition == truth(0) {
		return condition
	}
	return wrong(condition)
}

func (r *run) or(c *context, n api.TreeNode) api.Value {
	condition := r.value(c, n.Kids[0], 0)
	if condition == truth(0) {
		return r.value(c, n.Kids[1], 0)
	}
	if condition == truth(1) {
		return condition
	}
	return r.blighted(c, n.Kids[1], 0, condition)
}

// choose returns a value of an IfNode.
func (r *run) choose(c *context, n api.TreeNode, at int) api.Value {
	condition := r.value(c, n.Kids[0], 0)
	if condition == truth(1) {
		return r.given(c, n.Kids[1], at)
	}
	if condition == truth(0) {
		return r.given(c, n.Kids[2], at)
	}
	return r.blighted(c, n.Kids[2], at, condition)
}

// called returns the context of a CallNode.
func (r *run) called(c *context, call int) *context {
	if d := c.calls[call]; d != nil {
		return d
	}
	d := r.begin(r.of[call], nil)
	for i, arg := range r.Nodes[call].Kids {
		d.declare(r.Nodes[d.home].Kids[i], r.cell(c, arg))
	}
	c.calls[call] = d
	return d
}

// loop goes through the turns of a LoopNode, for one of its values.
func (r *run) loop(c *context, node, at int) api.Value {
	n := r.Nodes[node]
	give := n.Kids[len(n.Kids)-1]
	for number := 0; ; number++ {
		turn := r.turn(c, node, number)
		condition := r.value(turn, n.Kids[n.N], 0)
		if condition == truth(0) {
			return r.given(turn, give, at)
		}
		if condition != truth(1) {
			return r.blighted(turn, give, at, condition)
		}
	}
}

// turn returns the context of a turn of a LoopNode. All turns before it are there.
func (r *run) turn(c *context, node, number int) *context {
	if turns := c.turns[node]; number < len(turns) {
		return turns[number]
	}
	turn := r.begin(node, c)
	n := r.Nodes[node]
	for _, init := range n.Kids[:n.N] {
		turn.declare(init, r.init(c, node, init, number))
	}
	c.turns[node] = append(c.turns[node], turn)
	return turn
}

// init returns the value of an InitNode in a turn.
func (r *run) init(c *context, node, init, number int) *later {
	if number == 0 {
		return r.cell(c, r.Nodes[init].Kids[0])
	}
	before := c.turns[node][number-1]
	if next, ok := r.nexts[init]; ok {
		return r.cell(before, next)
	}
	return &later{work: r.later(before, place{init, 0}).need}
}
