package cells_test

import (
	"fmt"
	"math/rand"
	"slices"
	"testing"

	"floodgate/api"
	"floodgate/cells"
)

// arguments are what all functions are asked with.
type arguments struct {
	name   string
	l      []api.Value
	m      api.Memory
	ops    []api.CellOp
	p, q   api.Picture
	lists  [][]int
	closed []bool
	n      int
}

// spoil makes something of a value, or of a list, that may not be valid.
func spoil(r *rand.Rand, l []api.Value) {
	all := append(notValues(), ref(r.Intn(9)), hole())
	if len(l) > 0 {
		l[r.Intn(len(l))] = all[r.Intn(len(all))]
	}
}

// anyNumber is a number that is often a small one.
func anyNumber(r *rand.Rand) int {
	return []int{r.Intn(13), r.Intn(13), r.Intn(16) - 2, int(r.Uint64())}[min(r.Intn(20), 3)]
}

// anyArguments are arguments of which most are valid.
func anyArguments(t *testing.T, r *rand.Rand) arguments {
	t.Helper()
	a := arguments{name: []string{"add", "div", "eq", "not", "neg", "so", ""}[r.Intn(7)], m: anyMemory(r, 5), p: anyPicture(t, r), n: anyNumber(r)}
	a.q = filled(t, r, a.p)
	for range r.Intn(4) {
		a.l = append(a.l, anyValue(r, len(a.m.Structs)))
	}
	for range r.Intn(12) {
		a.ops = append(a.ops, anyOp(r, a.m))
	}
	for k := range r.Intn(4) {
		a.lists = append(a.lists, numbers(400)[:r.Intn(3)])
		a.closed = append(a.closed, k%2 == 0)
	}
	switch r.Intn(9) {
	case 0:
		spoil(r, a.l)
	case 1:
		for _, s := range a.m.Structs {
			spoil(r, s.Cells)
		}
	case 2:
		for i := range a.m.Structs {
			a.m.Structs[i].Wait = append(a.m.Structs[i].Wait, api.Read{Cell: anyNumber(r)})
		}
	case 3:
		for _, c := range append(a.p.Cells, a.q.Values) {
			spoil(r, c)
		}
	case 4:
		a.p.Cells = append(a.p.Cells, a.l)
	case 5:
		a.closed = append(a.closed, true)
	case 6:
		a.lists = append(a.lists, []int{anyNumber(r) * api.MaxNumber})
		a.closed = append(a.closed, false)
	}
	return a
}

// called tells what all functions answer.
func called(a arguments) string {
	var s []any
	put := func(x ...any) { s = append(s, x...) }
	memory := func(m api.Memory) {
		put(len(m.Structs))
		for _, s := range m.Structs {
			put(len(s.Cells), len(s.Wait), s.Cells, s.Wait)
		}
	}
	picture := func(p api.Picture) { put(len(p.Values), len(p.Cells), p.Values, p.Cells) }
	v, e := cells.Prim(a.name, a.l)
	put(v, e, cells.Operands(a.name), cells.Check(a.m), fmt.Sprint(cells.Holes(a.m)), cells.IsPicture(a.p), cells.IsPicture(a.q))
	for _, op := range append(slices.Clone(a.ops), api.CellOp{}) {
		m, v, l, e := cells.Do(a.m, op)
		memory(m)
		put(v, len(l), l, e)
	}
	m, gave, l, n, e := cells.Play(a.m, a.ops)
	memory(m)
	put(len(gave), gave, len(l), l, n, e)
	p, e := cells.Draw(a.m, a.l)
	picture(p)
	is, f := cells.Below(a.p, a.q)
	put(e, is, f)
	m, e = cells.Memory(a.p)
	memory(m)
	put(e)
	m, gave, e = cells.Build(a.lists, a.closed)
	memory(m)
	put(len(gave), gave, e)
	all, end, e := cells.Stream(a.p, a.n)
	put(len(all), all, end, e)
	text, e := cells.Show(a.q, a.n)
	put(text, e)
	return fmt.Sprint(s...)
}

// roomy copies a list; it has room behind its end, with something in it.
func roomy[T any](l []T, other T) []T {
	return append(slices.Clone(l), other, other, other)[:len(l)]
}

// clone copies arguments so that all of their lists are roomy.
func (a arguments) clone() arguments {
	odd := api.Value{Kind: 99, N: -77}
	picture := func(p api.Picture) api.Picture {
		c := roomy(p.Cells, values(odd))
		for i := range c {
			c[i] = roomy(c[i], odd)
		}
		return api.Picture{Values: roomy(p.Values, odd), Cells: c}
	}
	a.l, a.p, a.q = roomy(a.l, odd), picture(a.p), picture(a.q)
	a.m.Structs = roomy(a.m.Structs, api.Struct{Cells: values(odd)})
	for i := range a.m.Structs {
		s := &a.m.Structs[i]
		s.Cells, s.Wait = roomy(s.Cells, odd), roomy(s.Wait, api.Read{Cell: -77, Reader: -77})
	}
	a.ops = roomy(a.ops, api.CellOp{Kind: 99, V: odd})
	a.lists = roomy(a.lists, []int{-77})
	for i := range a.lists {
		a.lists[i] = roomy(a.lists[i], -77)
	}
	a.closed = roomy(a.closed, true)
	return a
}

// room tells roomy arguments with what lies behind the ends of their lists.
func (a arguments) room() string {
	var s []any
	put := func(x ...any) { s = append(s, x...) }
	several := func(l [][]api.Value) {
		for _, c := range l {
			put(c[:len(c)+3])
		}
		put(l[:len(l)+3])
	}
	several(a.p.Cells)
	several(a.q.Cells)
	put(a.p.Values[:len(a.p.Values)+3], a.q.Values[:len(a.q.Values)+3], a.l[:len(a.l)+3], a.ops[:len(a.ops)+3], a.closed[:len(a.closed)+3], a.lists[:len(a.lists)+3])
	for _, l := range a.lists {
		put(l[:len(l)+3])
	}
	for _, s := range a.m.Structs {
		put(s.Cells[:len(s.Cells)+3], s.Wait[:len(s.Wait)+3])
	}
	put(a.m.Structs[:len(a.m.Structs)+3])
	return fmt.Sprint(s...)
}

// P1, P2, R4, R8: for any arguments there is an answer, it is the same again, and no argument is changed, nor what lies behind the end of a list.
func TestAnyArguments(t *testing.T) {
	r := rand.New(rand.NewSource(1))
	for range 3000 {
		a := anyArguments(t, r).clone()
		before := a.room()
		first := called(a)
		if after := a.room(); after != before {
			t.Fatalf("%s\n%s", before, after)
		}
		if again := called(a); again != first {
			t.Fatalf("%s\n%s\n%s", before, first, again)
		}
		if other := called(a.clone()); other != first {
			t.Fatalf("%s\n%s\n%s", before, first, other)
		}
	}
}

// lots are lists of values and reads, of several results or arguments.
type lots struct {
	values  [][]api.Value
	waits   [][]api.Read
	structs [][]api.Struct
	cells   [][][]api.Value
	told    [][]api.Told
}

func (x *lots) memory(m api.Memory) {
	x.structs = append(x.structs, m.Structs)
	for _, s := range m.Structs {
		x.values = append(x.values, s.Cells)
		x.waits = append(x.waits, s.Wait)
	}
}

func (x *lots) picture(p api.Picture) {
	x.values = append(append(x.values, p.Values), p.Cells...)
	x.cells = append(x.cells, p.Cells)
}

// apart asks whether lists share no memory, neither with each other nor in their spare room.
func apart[T any](t *testing.T, other T, lists ...[]T) {
	t.Helper()
	var told []string
	for _, list := range lists {
		told = append(told, fmt.Sprint(list))
	}
	for i, list := range lists {
		whole := list[:cap(list)]
		kept := slices.Clone(whole)
		for k := range whole {
			whole[k] = other
		}
		for k, list := range lists {
			if k != i && fmt.Sprint(list) != told[k] {
				t.Fatal(i, k, told[k], list)
			}
		}
		copy(whole, kept)
	}
}

// P2, R4: results share no memory with arguments, nor with each other or later results.
func TestNewMemory(t *testing.T) {
	first := memory(values(hole(), ref(1), num(1)), values(hole()), nil)
	first.Structs[0].Wait = waits(0, 1, 2, 3)
	first.Structs[1].Wait = waits(0, 4, 5, 6)
	l := values(ref(1), ref(0), num(4))
	x := &lots{}
	x.memory(first)
	x.values = append(x.values, l)
	for range 2 {
		for _, op := range ops(read(ref(0), num(2), 1), read(ref(0), num(0), 1), write(ref(0), num(0), num(5)), write(none(), num(0), num(5)), alloc(num(3)), size(ref(0)), alloc(num(-1))) {
			m, _, told, _ := cells.Do(first, op)
			x.memory(m)
			x.told = append(x.told, told)
			for _, more := range [][]api.CellOp{ops(op), ops(op, read(ref(1), num(0), 7), write(ref(1), num(0), num(3))), ops(op, size(ref(9)))} {
				m, gave, told, _, _ := cells.Play(first, more)
				x.memory(m)
				x.values = append(x.values, gave)
				x.told = append(x.told, told)
			}
		}
		p, _ := cells.Draw(first, l)
		x.picture(p)
		m, _ := cells.Memory(p)
		x.memory(m)
		m, built, _ := cells.Build([][]int{{1, 2, 3}, nil, {4}}, []bool{true, false, false})
		x.memory(m)
		x.values = append(x.values, built)
	}
	odd := api.Value{Kind: 99, N: -9}
	apart(t, odd, x.values...)
	apart(t, api.Read{Cell: -9, Reader: -9}, x.waits...)
	apart(t, api.Struct{Cells: values(odd)}, x.structs...)
	apart(t, values(odd), x.cells...)
	apart(t, told(-9, odd), x.told...)
	a, _, _ := cells.Stream(picture(values(ref(0)), values(num(1), hole())), 0)
	b, _, _ := cells.Stream(picture(values(ref(0)), values(num(1), hole())), 0)
	numbers := []int{1, 2}
	cells.Build([][]int{numbers}, []bool{true})
	apart(t, -9, a, b, numbers)
	apart(t, [2]int{-9, -9}, cells.Holes(first), cells.Holes(first))
}

// R3: nil and empty lists are the same.
func TestNilAndEmpty(t *testing.T) {
	a := arguments{name: "not", ops: ops(alloc(num(0)), size(ref(0)))}
	b := arguments{name: "not", ops: ops(alloc(num(0)), size(ref(0))), l: values(), m: api.Memory{Structs: []api.Struct{}}, p: picture(values(), lists()...), q: picture(values()), lists: [][]int{}, closed: []bool{}}
	if x, y := called(a), called(b); x != y {
		t.Error(x, y)
	}
	a.m, b.m = api.Memory{Structs: make([]api.Struct, 2)}, api.Memory{Structs: slices.Repeat([]api.Struct{{Cells: values(), Wait: []api.Read{}}}, 2)}
	a.p, b.p = picture(values(ref(0), ref(1)), nil, nil), picture(values(ref(0), ref(1)), values(), values())
	a.q, b.q = b.p, a.p
	a.lists, b.lists = make([][]int, 2), [][]int{{}, {}}
	a.closed, b.closed = make([]bool, 2), make([]bool, 2)
	a.l, b.l = values(ref(0)), values(ref(0))
	if x, y := called(a), called(b); x != y {
		t.Error(x, y)
	}
	if is, e := cells.Below(a.p, b.p); !is || e != api.OK || !cells.IsPicture(a.p) || !cells.IsPicture(b.p) {
		t.Error(is, e)
	}
}
