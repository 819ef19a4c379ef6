package types_test

import (
	"slices"
	"strings"

	"floodgate/api"
	"floodgate/names"
	"floodgate/parse"
)

// Turns: what is looked at in the order of finding.
const (
	nodeTurn  = iota // a node
	countTurn        // a SetNode of which a bind is needed: how many types there are
	knotTurn         // a NameNode whose bind is being found
)

type turn struct{ what, node int }

// oracle says what the chapter says of a tree whose names have no error. It lists the order of finding before it knows any types, and reads the table as it is written.
type oracle struct {
	api.Tree
	of    []int
	up    []int
	turns []turn
	types map[int][]string
	shown map[int]string
}

func newOracle(x api.Tree) *oracle {
	n, _, _ := names.Resolve(x)
	o := &oracle{Tree: x, of: n.Of, up: make([]int, len(x.Nodes)), types: map[int][]string{}, shown: map[int]string{}}
	for i, n := range x.Nodes {
		for _, kid := range n.Kids {
			o.up[kid] = i
		}
	}
	seen, found := map[int]bool{}, map[int]bool{}
	for i := range x.Nodes {
		if !o.look(i, seen, found, nil) {
			break
		}
	}
	return o
}

// look lists the turns up to that of a node, and reports whether there was no knot. Nodes that were seen, and SetNodes whose types are found, are done.
func (o *oracle) look(i int, seen, found map[int]bool, open []int) bool {
	if seen[i] {
		return true
	}
	n := o.Nodes[i]
	if n.Kind == api.NameNode && o.Nodes[o.of[i]].Kind == api.BindNode && len(o.Nodes[o.of[i]].Kids) == 0 {
		set := o.up[o.of[i]]
		if slices.Contains(open, set) {
			o.turns = append(o.turns, turn{knotTurn, i})
			return false
		}
		if !found[set] {
			for k := range o.Nodes {
				if o.isIn(k, o.lastKid(set)) && !o.look(k, seen, found, append(slices.Clone(open), set)) {
					return false
				}
			}
			o.turns = append(o.turns, turn{countTurn, set})
			found[set] = true
		}
	}
	o.turns = append(o.turns, turn{nodeTurn, i})
	seen[i] = true
	found[i] = found[i] || n.Kind == api.SetNode
	return true
}

func (o *oracle) isIn(i, top int) bool {
	for i < top && o.Nodes[i].Kind != api.DefItem {
		i = o.up[i]
	}
	return i == top
}

func (o *oracle) lastKid(i int) int { return o.Nodes[i].Kids[len(o.Nodes[i].Kids)-1] }

// first goes through the turns, and returns the node of the first error, if there is one.
func (o *oracle) first() (int, bool) {
	for _, x := range o.turns {
		fits := false
		switch x.what {
		case countTurn:
			fits = o.count(x.node)
		case nodeTurn:
			o.types[x.node], fits = o.row(x.node)
		}
		parts := func(s string) bool { return 1+strings.Count(s, "[")+strings.Count(s, "stream ") > 20 }
		if !fits || slices.ContainsFunc(o.types[x.node], parts) {
			return x.node, true
		}
	}
	return 0, false
}

// count gives binds without a type the types of the expr, if they are as many.
func (o *oracle) count(set int) bool {
	n := o.Nodes[set]
	types := o.types[o.lastKid(set)]
	for i, bind := range n.Kids[:n.N] {
		if len(o.Nodes[bind].Kids) == 0 && i < len(types) {
			o.types[bind] = l(types[i])
		}
	}
	return len(types) == n.N
}

// show is a type node printed.
func (o *oracle) show(i int) string {
	if o.shown[i] == "" {
		o.shown[i], _ = parse.Show(o.Tree, i)
	}
	return o.shown[i]
}

// rows is the table, as far as it asks for kids with one type each: of kinds whose kids are as many as the words, which are types.
func rows() map[uint8]string {
	m := map[uint8]string{api.NumNode: "> int", api.BoolNode: "> bool", api.NegNode: "int > int", api.EqNode: "int, int > bool | bool, bool > bool", api.NeNode: "int, int > bool | bool, bool > bool", api.AndNode: "bool, bool > bool", api.OrNode: "bool, bool > bool", api.NotNode: "bool > bool", api.ConsNode: "T, stream T > stream T", api.HeadNode: "stream T > T", api.TailNode: "stream T > stream T", api.EmptyNode: "stream T > bool", api.ReadNode: "[T], int > T", api.SizeNode: "[T] > int"}
	for kind := api.AddNode; kind <= api.ModNode; kind++ {
		m[kind] = "int, int > int"
	}
	for kind := api.LtNode; kind <= api.GeNode; kind++ {
		m[kind] = "int, int > bool"
	}
	return m
}

// tabled looks for a T with which a row of the table has what the kids have.
func tabled(row string, have []string) ([]string, bool) {
	for _, way := range strings.Split(row, "|") {
		asks, gives, _ := strings.Cut(way, ">")
		for _, s := range append(slices.Clone(have), "") {
			for _, T := range l(s, strings.TrimPrefix(s, "stream "), strings.TrimSuffix(strings.TrimPrefix(s, "["), "]")) {
				if strings.ReplaceAll(strings.TrimSpace(asks), "T", T) == strings.Join(have, ", ") {
					return l(strings.ReplaceAll(strings.TrimSpace(gives), "T", T)), true
				}
			}
		}
	}
	return nil, false
}

// each are the types of nodes, if they have one each.
func (o *oracle) each(nodes ...int) ([]string, bool) {
	var types []string
	for _, i := range nodes {
		if len(o.types[i]) != 1 {
			return nil, false
		}
		types = append(types, o.types[i][0])
	}
	return types, true
}

// have reports whether nodes have all just this type.
func (o *oracle) have(s string, nodes ...int) bool {
	types, ok := o.each(nodes...)
	return ok && !slices.ContainsFunc(types, func(other string) bool { return other != s })
}

// row says of a node its types, and whether its kids have what they must.
func (o *oracle) row(i int) ([]string, bool) {
	n := o.Nodes[i]
	if row, ok := rows()[n.Kind]; ok {
		have, ok := o.each(n.Kids...)
		types, fits := tabled(row, have)
		return types, ok && fits
	}
	switch n.Kind {
	case api.NilNode:
		return l("stream " + o.show(n.Kids[0])), true
	case api.ArrayNode:
		var exprs []int
		for _, part := range n.Kids[1:] {
			exprs = append(exprs, o.lastKid(part))
		}
		types, ok := o.each(exprs...)
		if !ok {
			return nil, false
		}
		return l("[" + types[0] + "]"), o.have("int", n.Kids[0]) && o.have(types[0], exprs...)
	case api.CallNode:
		have, ok := o.each(n.Kids...)
		params, results := o.sign(o.of[i])
		return results, ok && slices.Equal(have, params)
	case api.IfNode:
		return o.types[n.Kids[1]], o.have("bool", n.Kids[0]) && slices.Equal(o.types[n.Kids[1]], o.types[n.Kids[2]])
	case api.LoopNode:
		return o.types[o.lastKid(i)], o.have("bool", n.Kids[n.N])
	}
	return o.partRow(i)
}

func (o *oracle) partRow(i int) ([]string, bool) {
	n := o.Nodes[i]
	switch n.Kind {
	case api.NameNode, api.ParamNode, api.BindNode, api.SpanNode:
		d := i
		if n.Kind == api.NameNode {
			d = o.of[i]
		}
		kids := o.Nodes[d].Kids
		switch {
		case o.Nodes[d].Kind == api.SpanNode:
			return l("int"), true
		case o.Nodes[d].Kind == api.InitNode || len(kids) == 0:
			return o.types[d], true
		}
		return l(o.show(kids[0])), true
	case api.BlockNode, api.GiveNode:
		exprs := n.Kids[n.N:] // a GiveNode has 0
		if len(exprs) == 1 {
			return o.types[exprs[0]], true
		}
		return o.each(exprs...)
	case api.SetNode:
		fits := o.count(i)
		for k, bind := range n.Kids[:n.N] {
			fits = fits && o.types[bind][0] == o.types[o.lastKid(i)][k]
		}
		return nil, fits
	case api.InitNode:
		return o.each(n.Kids...)
	case api.NextNode:
		return nil, o.have(o.types[o.of[i]][0], n.Kids...)
	case api.DefItem:
		_, results := o.sign(i)
		return nil, slices.Equal(results, o.types[o.lastKid(i)])
	}
	return nil, true
}

func (o *oracle) sign(item int) (params, results []string) {
	for _, kid := range o.Nodes[item].Kids {
		switch o.Nodes[kid].Kind {
		case api.ParamNode:
			params = append(params, o.show(o.Nodes[kid].Kids[0]))
		case api.BlockNode:
		default:
			results = append(results, o.show(kid))
		}
	}
	return params, results
}
