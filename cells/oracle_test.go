package cells_test

import (
	"math/big"
	"slices"
	"strconv"
	"strings"

	"floodgate/api"
)

// wantValue reports whether a value is one if there are so many structures.
func wantValue(v api.Value, structs int) bool {
	ends, ok := map[uint8][2]int{
		api.VHole: {0, 0}, api.VInt: {-1000000000, 1000000000}, api.VBool: {0, 1}, api.VNil: {0, 0}, api.VRef: {0, structs - 1}, api.VBad: {1, 5},
	}[v.Kind]
	return ok && v.N >= ends[0] && v.N <= ends[1]
}

// wantValues reports whether all values are ones.
func wantValues(structs int, l ...api.Value) bool {
	for _, v := range l {
		if !wantValue(v, structs) {
			return false
		}
	}
	return true
}

// kinds are the kinds of values, a letter each.
func kinds(l []api.Value) string {
	s := ""
	for _, v := range l {
		s += string("hibnrxc"[v.Kind])
	}
	return s
}

// wantPrim is the result of an operation, worked out with numbers of any size.
func wantPrim(name string, l []api.Value) api.Value {
	k := kinds(l)
	if strings.Contains(k, "h") {
		return hole()
	}
	if i := strings.Index(k, "x"); i >= 0 {
		return l[i]
	}
	can := map[string]string{"add": "ii", "sub": "ii", "mul": "ii", "div": "ii", "mod": "ii", "lt": "ii", "le": "ii", "eq": "ii bb", "neg": "i", "not": "b"}
	if !slices.Contains(strings.Fields(can[name]), k) {
		return bad(api.BadKind)
	}
	a, b, c := big.NewInt(int64(l[0].N)), big.NewInt(0), big.NewInt(0)
	if len(l) == 2 {
		b.SetInt64(int64(l[1].N))
	}
	is := func(so bool) api.Value {
		if so {
			return truth(1)
		}
		return truth(0)
	}
	switch name {
	case "lt":
		return is(a.Cmp(b) < 0)
	case "le":
		return is(a.Cmp(b) <= 0)
	case "eq":
		return is(a.Cmp(b) == 0)
	case "not":
		return is(a.Sign() == 0)
	case "add":
		c.Add(a, b)
	case "sub":
		c.Sub(a, b)
	case "mul":
		c.Mul(a, b)
	case "neg":
		c.Neg(a)
	case "div", "mod":
		if b.Sign() == 0 {
			return bad(api.BadZero)
		}
		if rest := new(big.Int); name == "div" {
			c.QuoRem(a, b, rest)
		} else {
			new(big.Int).QuoRem(a, b, c)
		}
	}
	if c.CmpAbs(big.NewInt(api.MaxNumber)) > 0 {
		return bad(api.BadRange)
	}
	return num(int(c.Int64()))
}

// history is a memory, and what was done to it. What there is now is found by going through all of it.
type history struct {
	first api.Memory
	done  []api.CellOp
}

// sizes are how many cells the structures have.
func (h history) sizes() []int {
	var l []int
	for _, s := range h.first.Structs {
		l = append(l, len(s.Cells))
	}
	for _, op := range h.done {
		if op.Kind == api.CellAlloc && op.V.Kind == api.VInt && op.V.N >= 0 && op.V.N <= 100 {
			l = append(l, op.V.N)
		}
	}
	return l
}

// value is the value that a cell had at first, or that was written first.
func (h history) value(s, cell int) api.Value {
	if s < len(h.first.Structs) && h.first.Structs[s].Cells[cell] != hole() {
		return h.first.Structs[s].Cells[cell]
	}
	for _, op := range h.done {
		if op.Kind == api.CellWrite && op.V == ref(s) && op.Index == num(cell) {
			return op.Value
		}
	}
	return hole()
}

// waits are all reads there ever were of cells that have no value.
func (h history) waits(s int) []api.Read {
	var l []api.Read
	if s < len(h.first.Structs) {
		l = slices.Clone(h.first.Structs[s].Wait)
	}
	for _, op := range h.done {
		if op.Kind == api.CellRead && op.V == ref(s) && op.Index.Kind == api.VInt && op.Index.N >= 0 && op.Index.N < h.sizes()[s] {
			l = append(l, api.Read{Cell: op.Index.N, Reader: op.Reader})
		}
	}
	return slices.DeleteFunc(l, func(r api.Read) bool { return h.value(s, r.Cell) != hole() })
}

func (h history) memory() api.Memory {
	var m api.Memory
	for s, size := range h.sizes() {
		x := api.Struct{Wait: h.waits(s)}
		for cell := range size {
			x.Cells = append(x.Cells, h.value(s, cell))
		}
		m.Structs = append(m.Structs, x)
	}
	return m
}

// takes reports whether something can be done at all.
func (h history) takes(op api.CellOp) bool {
	need := map[uint8][]api.Value{
		api.CellAlloc: {op.V}, api.CellSize: {op.V}, api.CellRead: {op.V, op.Index}, api.CellWrite: {op.V, op.Index, op.Value},
	}[op.Kind]
	return len(need) > 0 && wantValues(len(h.sizes()), need...) && !slices.Contains(need, hole())
}

// do does something, and tells what it gives.
func (h *history) do(op api.CellOp) (gave api.Value, l []api.Told, e api.Errno) {
	if !h.takes(op) {
		return hole(), nil, api.ErrArg
	}
	sizes := h.sizes()
	k := kinds(values(op.V, op.Index))
	isCell := k == "ri" && op.Index.N >= 0 && op.Index.N < sizes[op.V.N]
	written := isCell && h.value(op.V.N, op.Index.N) != hole()
	switch op.Kind {
	case api.CellAlloc:
		gave = ref(len(sizes))
		switch {
		case k[0] == 'x':
			gave = op.V
		case k[0] != 'i':
			gave = bad(api.BadKind)
		case op.V.N < 0 || op.V.N > 100:
			gave = bad(api.BadSize)
		case len(sizes) >= 400:
			return hole(), nil, api.ErrLimit
		}
	case api.CellSize:
		gave = bad(api.BadKind)
		switch k[0] {
		case 'x':
			gave = op.V
		case 'r':
			gave = num(sizes[op.V.N])
		}
	case api.CellWrite:
		gave = none()
		if written {
			return hole(), nil, api.ErrTwice
		}
		if isCell {
			for _, r := range h.waits(op.V.N) {
				if r.Cell == op.Index.N {
					l = append(l, told(r.Reader, op.Value))
				}
			}
		}
	case api.CellRead:
		i := strings.Index(k, "x")
		switch {
		case isCell:
			gave = h.value(op.V.N, op.Index.N)
		case i >= 0:
			gave = values(op.V, op.Index)[i]
		case k == "ri", k[0] == 'n':
			gave = bad(api.BadIndex)
		default:
			gave = bad(api.BadKind)
		}
		if isCell && !written && h.waiting() >= 6000 {
			return hole(), nil, api.ErrLimit
		}
	}
	h.done = append(h.done, op)
	return gave, l, api.OK
}

func (h history) waiting() int {
	many := 0
	for s := range h.sizes() {
		many += len(h.waits(s))
	}
	return many
}

// wantPicture lists structures by looking again and again for the first one, in all that is listed, that is not listed.
func wantPicture(m api.Memory, l []api.Value) api.Picture {
	var listed []int
	met := func() []api.Value {
		all := slices.Clone(l)
		for _, s := range listed {
			all = append(all, m.Structs[s].Cells...)
		}
		return all
	}
	for {
		all := met()
		i := slices.IndexFunc(all, func(v api.Value) bool { return v.Kind == api.VRef && !slices.Contains(listed, v.N) })
		if i < 0 {
			break
		}
		listed = append(listed, all[i].N)
	}
	renumbered := func(l []api.Value) []api.Value {
		var n []api.Value
		for _, v := range l {
			if v.Kind == api.VRef {
				v = ref(slices.Index(listed, v.N))
			}
			n = append(n, v)
		}
		return n
	}
	p := api.Picture{Values: renumbered(l)}
	for _, s := range listed {
		p.Cells = append(p.Cells, renumbered(m.Structs[s].Cells))
	}
	return p
}

// wantIsPicture reports whether a picture is one.
func wantIsPicture(p api.Picture) bool {
	if len(p.Values) > 100 || len(p.Cells) > 400 || !wantValues(len(p.Cells), p.Values...) {
		return false
	}
	for _, l := range p.Cells {
		if len(l) > 100 || !wantValues(len(p.Cells), l...) {
			return false
		}
	}
	return samePicture(wantPicture(memory(p.Cells...), p.Values), p)
}

// wantBelow finds all pairs first, also behind some that are none, and asks them all then.
func wantBelow(a, b api.Picture) bool {
	type both struct{ v, w api.Value }
	lists := [][2][]api.Value{{a.Values, b.Values}}
	var all []both
	for i := 0; i < len(lists); i++ {
		if len(lists[i][0]) != len(lists[i][1]) {
			return false
		}
		for k, v := range lists[i][0] {
			p := both{v, lists[i][1][k]}
			if kinds(values(p.v, p.w)) == "rr" && !slices.Contains(all, p) {
				lists = append(lists, [2][]api.Value{a.Cells[p.v.N], b.Cells[p.w.N]})
			}
			all = append(all, p)
		}
	}
	for _, p := range all {
		if k := kinds(values(p.v, p.w)); k[0] != 'h' && k != "rr" && p.v != p.w {
			return false
		}
		for _, q := range all {
			if kinds(values(p.v, p.w, q.v, q.w)) == "rrrr" && (p.v == q.v) != (p.w == q.w) {
				return false
			}
		}
	}
	return true
}

// wantText is the text of values of a picture, however long it is.
func wantText(p api.Picture, l []api.Value, deep int) string {
	var texts []string
	for _, v := range l {
		s := ""
		switch kinds(values(v)) {
		case "h":
			s = "?"
		case "i":
			s = strconv.Itoa(v.N)
		case "b":
			s = strings.Fields("false true")[v.N]
		case "n":
			s = "nil"
		case "x":
			s = strings.Fields("- zero! range! index! size! kind!")[v.N]
		case "r":
			s = ".."
			if deep > 0 {
				s = "[" + wantText(p, p.Cells[v.N], deep-1) + "]"
			}
		}
		texts = append(texts, s)
	}
	return strings.Join(texts, ", ")
}

// wantStream takes at most so many integers of a stream.
func wantStream(p api.Picture, v api.Value, most int) ([]int, api.Value) {
	if most == 0 || kinds(values(v)) != "r" {
		return nil, v
	}
	c := p.Cells[v.N]
	if len(c) != 2 || kinds(c[:1]) != "i" {
		return nil, v
	}
	l, end := wantStream(p, c[1], most-1)
	return append([]int{c[0].N}, l...), end
}
