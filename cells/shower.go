package cells

import (
	"strconv"
	"strings"

	"floodgate/api"
)

// deepest is how many structures one in the other are shown at most.
const deepest = 12

// faults are the words of what went wrong, by their numbers.
var faults = [...]string{api.BadZero: "zero!", api.BadRange: "range!", api.BadIndex: "index!", api.BadSize: "size!", api.BadKind: "kind!"}

// shower is the text of a picture, as far as it is written.
type shower struct {
	strings.Builder
	cells [][]api.Value
}

// full reports whether the text is too long. Nothing more is written then: a structure that reaches itself in many cells has a text that nobody could wait for.
func (s *shower) full() bool { return s.Len() > api.MaxText }

// list writes values with commas between them.
func (s *shower) list(l []api.Value, deep int) {
	for i, v := range l {
		if s.full() {
			return
		}
		if i > 0 {
			s.WriteString(", ")
		}
		s.value(v, deep)
	}
}

func (s *shower) value(v api.Value, deep int) {
	switch v.Kind {
	case api.VHole:
		s.WriteByte('?')
	case api.VInt:
		s.WriteString(strconv.Itoa(v.N))
	case api.VBool:
		s.WriteString(strconv.FormatBool(v.N == 1))
	case api.VNil:
		s.WriteString("nil")
	case api.VBad:
		s.WriteString(faults[v.N])
	case api.VRef:
		s.structure(v.N, deep)
	}
}

func (s *shower) structure(n, deep int) {
	if deep == 0 {
		s.WriteString("..")
		return
	}
	s.WriteByte('[')
	s.list(s.cells[n], deep-1)
	s.WriteByte(']')
}
