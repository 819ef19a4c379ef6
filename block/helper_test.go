package block_test

import (
	"fmt"
	"slices"
	"strconv"
	"strings"
	"testing"

	"floodgate/api"
	"floodgate/block"
)

const (
	least    = -1 << 63
	greatest = 1<<63 - 1
)

// power is the chapter's example.
const power = `block main 2
  n0 = int 0 p0
  n1 = fetch p1 n0
  n2 = int 1 p0
  n3 = loop main.0 p0 n1 n2
  exit n3
block main.0 3
  n0 = int 0 p0
  n1 = prim lt n0 p1
  n2 = switch n1 p0
  n3 = switch n1 p1
  n4 = switch n1 p2
  n5 = int 1 n2
  n6 = prim sub n3 n5
  n7 = prim add n4 n4
  next n2 n6 n7
  exit n4.1
`

// every is a program with all Ops, calls in calls, a loop, outputs above 0 of a switch and of calls, and blocks without nodes, Nexts or Exits.
const every = `block pair 3
  n0 = gate p1 p0
  exit p2 n0
block sink 1
  exit
block main 2
  n0 = int 1000000000 p0
  n1 = int -1000000000 p0
  n2 = bool true p0
  n3 = bool false p0
  n4 = nil p0
  n5 = prim add n0 n1
  n6 = prim not n2
  n7 = switch n6 n5
  n8 = merge n7 n7.1
  n9 = alloc n8
  n10 = store n9 n8 p1
  n11 = fetch n9 n8
  n12 = size n9
  n13 = isnil n4
  n14 = call pair p0 n11 n12
  n15 = call pair p0 n14.1 n14
  n16 = call sink p0
  n17 = loop count.0 p0 n15.1
  exit n17.1 n17 p1 n3 n13
block count.0 2
  n0 = prim eq p1 p1
  n1 = switch n0 p0
  n2 = switch n0 p1
  n3 = call twice n1
  next n1 n2
  exit n2.1 n1.1
block twice 1
  n0 = call sink p0
  n1 = call sink p0
  exit
`

// odd are programs of which each line, or their order, is another one than those above.
func odd() []string {
	return []string{
		"block main 1\n  exit\n",
		"block main 12\n  exit p11 p11 p0 p10\n",
		"block main 1\n  n0 = nil p0\n  exit p0 n0\nblock a..0 2\n  next p1 p0\n  exit p1\n",
		"block l.0 1\n  n0 = switch p0 p0\n  next n0\n  exit\nblock main 1\n  n0 = loop l.0 p0\n  exit\n",
		"block block 1\n  n0 = call exit p0\n  n1 = call next p0\n  exit\nblock exit 1\n  exit\nblock next 1\n  exit\nblock n0 1\n  n0 = call block p0\n  n1 = call p1 p0\n  exit\nblock p1 1\n  exit\nblock main 1\n  n0 = call n0 p0\n  exit\n",
		"block main 1\n  n0 = call main p0\n  exit n0\n",
	}
}

// samples are the texts of programs.
func samples() []string { return append(odd(), power, every) }

// made makes blocks of a text, whether they are a program or not. It leaves out what it cannot read.
func made(s string) []api.Block {
	var l []api.Block
	for _, line := range strings.Split(strings.TrimSuffix(s, "\n"), "\n") {
		w := strings.Fields(line)
		if w[0] == "block" {
			params, _ := strconv.Atoi(w[2])
			l = append(l, api.Block{Name: w[1], Params: params})
			continue
		}
		b := &l[len(l)-1]
		switch {
		case len(w) < 2 || w[1] != "=":
			*map[string]*[]api.From{"next": &b.Nexts, "exit": &b.Exits}[w[0]] = froms(w[1:]...)
		default:
			b.Nodes = append(b.Nodes, node(strings.Join(w[2:], " ")))
		}
	}
	return l
}

// node makes a node of its word, its Name or N, and its inputs.
func node(s string) api.Node {
	w := strings.Fields(s)
	n := api.Node{Op: ops()[w[0]].op}
	w = w[1:]
	switch n.Op {
	case api.NInt:
		n.N, _ = strconv.Atoi(w[0])
		w = w[1:]
	case api.NBool:
		n.N = map[string]int{"true": 1}[w[0]]
		w = w[1:]
	case api.NPrim, api.NCall, api.NLoop:
		n.Name = w[0]
		w = w[1:]
	}
	n.Ins = froms(w...)
	return n
}

// froms makes outputs of their words.
func froms(words ...string) []api.From {
	var l []api.From
	for _, w := range words {
		f := api.From{Node: -1}
		if w[0] == 'p' {
			fmt.Sscanf(w, "p%d", &f.Out)
		} else {
			fmt.Sscanf(w, "n%d.%d", &f.Node, &f.Out)
		}
		l = append(l, f)
	}
	return l
}

// single makes a program of a main with two parameters, nodes as node makes them, and Exits.
func single(exits string, nodes ...string) []api.Block {
	b := api.Block{Name: "main", Params: 2, Exits: froms(strings.Fields(exits)...)}
	for _, s := range nodes {
		b.Nodes = append(b.Nodes, node(s))
	}
	return []api.Block{b}
}

// right makes a program of a text, and asks whether it is one.
func right(t *testing.T, s string) []api.Block {
	t.Helper()
	l := made(s)
	if e := block.Check(l); e != api.OK {
		t.Fatalf("%v\n%s", e, s)
	}
	return l
}

// shown tells blocks; nil and empty lists are told alike.
func shown(l []api.Block) string { return fmt.Sprint(l) }

// wide is a list of one output again and again.
func wide(f api.From, many int) []api.From { return slices.Repeat([]api.From{f}, many) }

// param is a parameter.
func param(n int) api.From { return api.From{Node: -1, Out: n} }

// numbered are the numbers from 0 on.
func numbered(many int) []int {
	var l []int
	for n := range many {
		l = append(l, n)
	}
	return l
}
