package block

import (
	"strconv"
	"strings"

	"floodgate/api"
)

// read returns the blocks whose text a text could be. It does not look at the form: a program has one text alone, so whatever is not as it must be is seen when the text of these blocks is another one.
func read(s string) []api.Block {
	var l []api.Block
	for line := range strings.Lines(s) {
		w := words(strings.Fields(line))
		kind := w.take()
		switch {
		case kind == "block":
			b := api.Block{Name: w.take()}
			b.Params = number(w.take())
			l = append(l, b)
		case len(l) > 0:
			w.part(kind, &l[len(l)-1])
		}
	}
	return l
}

// words are those of a line that are still to be read.
type words []string

// take takes the next word away, an empty one if there is none.
func (w *words) take() string {
	if len(*w) == 0 {
		return ""
	}
	word := (*w)[0]
	*w = (*w)[1:]
	return word
}

// part reads what a line with a first word says of its block.
func (w *words) part(kind string, b *api.Block) {
	switch kind {
	case "next":
		b.Nexts = w.ports()
	case "exit":
		b.Exits = w.ports()
	default:
		b.Nodes = append(b.Nodes, w.node())
	}
}

// node reads a node behind its number.
func (w *words) node() api.Node {
	w.take() // the sign =
	n := api.Node{Op: opOf(w.take())}
	switch n.Op {
	case api.NInt:
		n.N = number(w.take())
	case api.NBool:
		if w.take() == "true" {
			n.N = 1
		}
	case api.NPrim, api.NCall, api.NLoop:
		n.Name = w.take()
	}
	n.Ins = w.ports()
	return n
}

// ports reads outputs up to the end of the line.
func (w *words) ports() []api.From {
	var l []api.From
	for len(*w) > 0 {
		l = append(l, portOf(w.take()))
	}
	return l
}

// portOf returns the output with a word.
func portOf(word string) api.From {
	if out, is := strings.CutPrefix(word, "p"); is {
		return api.From{Node: -1, Out: number(out)}
	}
	node, out, _ := strings.Cut(strings.TrimPrefix(word, "n"), ".")
	return api.From{Node: number(node), Out: number(out)}
}

// number returns the number with a word, another one if there is none.
func number(word string) int {
	n, _ := strconv.Atoi(word)
	return n
}
