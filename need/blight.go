package need

import "floodgate/api"

// blight is an expression, a block or a give whose constants have all gone bad, in a run.
type blight struct {
	*run
	around *context
	top    int            // what was said to be blighted
	holes  map[place]bool // of what in it it is known whether it is a hole
}

// blighted returns what comes where a condition is neither true nor false: the blighted value of what would come if it were false.
func (r *run) blighted(c *context, node, at int, condition api.Value) api.Value {
	if condition == hole() {
		return condition
	}
	b := &blight{run: r, around: c, top: node, holes: map[place]bool{}}
	if b.isHole(node, at) {
		return hole()
	}
	return wrong(condition)
}

// isHole reports whether a blighted value is a hole. What was asked before is not gone through again: it would need nothing new.
func (b *blight) isHole(node, at int) bool {
	p := b.giver(node, at)
	is, ok := b.holes[p]
	if !ok {
		is = b.find(p.node, p.at)
		b.holes[p] = is
	}
	return is
}

// find finds out whether a blighted value of an expression is a hole.
func (b *blight) find(node, at int) bool {
	n := &b.Nodes[node]
	switch n.Kind {
	case api.NumNode, api.BoolNode, api.NilNode, api.CallNode, api.ConsNode, api.LoopNode:
		return false
	case api.NameNode:
		return b.means(node)
	case api.AndNode, api.ArrayNode:
		return b.isHole(n.Kids[0], 0)
	case api.OrNode:
		return b.isHole(n.Kids[0], 0) || b.isHole(n.Kids[1], 0)
	case api.IfNode:
		return b.isHole(n.Kids[0], 0) || b.isHole(n.Kids[2], at)
	}
	return b.any(n.Kids)
}

// any reports whether one of some expressions is a hole. All of them are worked out.
func (b *blight) any(nodes []int) bool {
	some := false
	for _, node := range nodes {
		if b.isHole(node, 0) {
			some = true
		}
	}
	return some
}

// means reports whether what a NameNode means is a hole. What is defined in what is blighted is blighted, too.
func (b *blight) means(name int) bool {
	node := b.of[name]
	if p, ok := b.binds[node]; ok && b.inside(node, b.top) {
		return b.isHole(p.node, p.at)
	}
	return b.named(b.around, name) == hole()
}
