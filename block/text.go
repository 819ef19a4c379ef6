package block

import (
	"strconv"
	"strings"

	"floodgate/api"
)

// text returns the text of a program.
func text(l []api.Block) string {
	var s strings.Builder
	line := func(words []string, ports []api.From) {
		for _, f := range ports {
			words = append(words, portWord(f))
		}
		s.WriteString(strings.Join(words, " "))
		s.WriteByte('\n')
	}
	for _, b := range l {
		line([]string{"block", b.Name, strconv.Itoa(b.Params)}, nil)
		for number, n := range b.Nodes {
			line(nodeWords(number, n), n.Ins)
		}
		if isLoop(b) {
			line([]string{"  next"}, b.Nexts)
		}
		line([]string{"  exit"}, b.Exits)
	}
	return s.String()
}

// nodeWords returns the words of a node before its inputs.
func nodeWords(number int, n api.Node) []string {
	l := []string{"  n" + strconv.Itoa(number), "=", shapes[n.Op].word}
	switch n.Op {
	case api.NInt:
		l = append(l, strconv.Itoa(n.N))
	case api.NBool:
		l = append(l, strconv.FormatBool(n.N == 1))
	case api.NPrim, api.NCall, api.NLoop:
		l = append(l, n.Name)
	}
	return l
}

// portWord returns the word of an output.
func portWord(f api.From) string {
	if f.Node < 0 {
		return "p" + strconv.Itoa(f.Out)
	}
	s := "n" + strconv.Itoa(f.Node)
	if f.Out > 0 {
		s += "." + strconv.Itoa(f.Out)
	}
	return s
}
