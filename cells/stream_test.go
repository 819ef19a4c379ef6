package cells_test

import (
	"math/rand"
	"slices"
	"strings"
	"testing"

	"floodgate/api"
	"floodgate/cells"
)

// numbers are so many integers, both ends among them.
func numbers(many int) []int {
	var l []int
	for i := range many {
		l = append(l, []int{api.MaxNumber, -api.MaxNumber, i, -i}[i%4])
	}
	return l
}

// P6.7: streams that are closed and open, with integers and without, in their order.
func TestBuild(t *testing.T) {
	for i, x := range []struct {
		l      [][]int
		closed []bool
		m      api.Memory
		values []api.Value
	}{
		{nil, nil, api.Memory{}, nil},
		{[][]int{{3, 4}}, []bool{true}, memory(values(num(3), ref(1)), values(num(4), none())), values(ref(0))},
		{[][]int{{3, 4}}, []bool{false}, memory(values(num(3), ref(1)), values(num(4), hole())), values(ref(0))},
		{[][]int{nil}, []bool{true}, api.Memory{}, values(none())},
		{[][]int{nil}, []bool{false}, api.Memory{}, values(hole())},
		{[][]int{{}, {5}, nil, {-7, 0, 7}, {}, {9}, nil}, []bool{false, true, true, false, false, false, true}, memory(values(num(5), none()), values(num(-7), ref(2)), values(num(0), ref(3)), values(num(7), hole()), values(num(9), hole())), values(hole(), ref(0), none(), ref(1), hole(), ref(4), none())},
		{[][]int{{api.MaxNumber}, {-api.MaxNumber}}, []bool{false, true}, memory(values(num(api.MaxNumber), hole()), values(num(-api.MaxNumber), none())), values(ref(0), ref(1))},
	} {
		m, l, e := cells.Build(x.l, x.closed)
		if !sameMemory(m, x.m) || !slices.Equal(l, x.values) || e != api.OK || cells.Check(m) != api.OK {
			t.Error(i, m, l, e)
		}
	}
}

// P6.7, R1, R2, R7: lists of different lengths, then integers out of their limits, then more than 400; any number of streams.
func TestBuildErrors(t *testing.T) {
	many := make([]int, 400)
	for i, x := range []struct {
		l      [][]int
		closed int // how many elements closed has
		want   api.Errno
	}{
		{nil, 1, api.ErrArg},
		{[][]int{{1}}, 0, api.ErrArg},
		{[][]int{{1}}, 2, api.ErrArg},
		{[][]int{many, {api.MaxNumber + 1}}, 1, api.ErrArg},
		{[][]int{many, {api.MaxNumber + 1}}, 2, api.ErrRange},
		{[][]int{{api.MaxNumber + 1}}, 1, api.ErrRange},
		{[][]int{{1}, {2, -api.MaxNumber - 1, 3}, nil}, 3, api.ErrRange},
		{[][]int{{1}, {2, 3, least}, nil}, 3, api.ErrRange},
		{[][]int{{1}, {greatest}}, 2, api.ErrRange},
		{[][]int{append(slices.Clone(many), 1)}, 1, api.ErrLimit},
		{[][]int{{1}, many}, 2, api.ErrLimit},
		{[][]int{many, nil, {1}}, 3, api.ErrLimit},
		{[][]int{many[:200], many[:200], many[:1]}, 3, api.ErrLimit},
		{[][]int{many}, 1, api.OK},
		{[][]int{many[:200], nil, many[:199], {1}}, 4, api.OK},
		{make([][]int, 1000), 1000, api.OK},
	} {
		m, l, e := cells.Build(x.l, make([]bool, x.closed))
		if e != x.want || e == api.OK && len(l) != x.closed || e != api.OK && len(m.Structs)+len(l) > 0 {
			t.Error(i, len(m.Structs), len(l), e)
		}
	}
}

// P6.8: what is a stream, and what is left where it is none any more.
func TestStream(t *testing.T) {
	p := picture(values(ref(0), num(5), none(), hole(), ref(1), ref(2), ref(3), bad(2), ref(4), truth(1), ref(5)),
		values(num(1), ref(6)), values(num(2)), values(num(3), none(), none()), nil, values(truth(1), ref(0)), values(hole(), ref(0)), values(num(4), ref(7)), values(num(-api.MaxNumber), ref(8)), values(ref(0), none()))
	if !cells.IsPicture(p) {
		t.Fatal("no picture")
	}
	for n, x := range []struct {
		l   []int
		end api.Value
	}{
		{[]int{1, 4, -api.MaxNumber}, ref(8)}, {nil, num(5)}, {nil, none()}, {nil, hole()}, {nil, ref(1)}, {nil, ref(2)}, {nil, ref(3)}, {nil, bad(2)}, {nil, ref(4)}, {nil, truth(1)}, {nil, ref(5)},
	} {
		if l, end, e := cells.Stream(p, n); !slices.Equal(l, x.l) || end != x.end || e != api.OK {
			t.Error(n, l, end, e)
		}
	}
	for _, v := range append(allValues(), ref(0), ref(1)) {
		p := picture(values(ref(0)), values(num(8), v), nil)
		if v != ref(1) {
			p.Cells = p.Cells[:1]
		}
		l, end, e := cells.Stream(p, 0)
		if many := len(l); v == ref(0) && many != 400 || v != ref(0) && many != 1 || l[0] != 8 || end != v || e != api.OK {
			t.Error(v, l, end, e)
		}
	}
	for _, n := range []int{-1, 11, 12, 100, least, greatest} {
		if l, end, e := cells.Stream(p, n); len(l) > 0 || end != hole() || e != api.ErrRange {
			t.Error(n, l, end, e)
		}
	}
	if l, end, e := cells.Stream(api.Picture{}, 0); len(l) > 0 || end != hole() || e != api.ErrRange {
		t.Error(l, end, e)
	}
}

// P6.8, R7: at most 400 integers are taken, also where the stream comes to itself again, and where it is a long one.
func TestLongStream(t *testing.T) {
	for turn := 1; turn <= 9; turn++ {
		p := picture(values(ref(0)))
		for i := range turn {
			p.Cells = append(p.Cells, values(num(i), ref((i+1)%turn)))
		}
		l, end, e := cells.Stream(p, 0)
		if len(l) != 400 || l[399] != 399%turn || end != ref(400%turn) || e != api.OK {
			t.Error(turn, len(l), end, e)
		}
	}
	for _, closed := range []bool{false, true} {
		m, v, _ := cells.Build([][]int{numbers(400)}, []bool{closed})
		p, _ := cells.Draw(m, v)
		l, end, e := cells.Stream(p, 0)
		if want := map[bool]api.Value{false: hole(), true: none()}[closed]; !slices.Equal(l, numbers(400)) || end != want || e != api.OK {
			t.Error(closed, len(l), end, e)
		}
	}
}

// P6.9: the text of each value, and of structures with each depth, those that reach themselves among them.
func TestShow(t *testing.T) {
	looped := picture(values(ref(0), ref(1), ref(0)), values(ref(0), hole()), values(ref(0)))
	for i, x := range []struct {
		p    api.Picture
		deep int
		want string
	}{
		{looped, 2, "[[.., ?], ?], [[.., ?]], [[.., ?], ?]"},
		{looped, 0, ".., .., .."},
		{looped, 1, "[.., ?], [..], [.., ?]"},
		{api.Picture{}, 0, ""},
		{api.Picture{}, 12, ""},
		{picture(allValues()), 0, "?, -1000000000, -1, 0, 1, 1000000000, false, true, nil, zero!, range!, index!, size!, kind!"},
		{picture(values(ref(0)), allValues()), 1, "[?, -1000000000, -1, 0, 1, 1000000000, false, true, nil, zero!, range!, index!, size!, kind!]"},
		{picture(values(ref(0)), values(num(3), ref(1)), values(num(4), none())), 2, "[3, [4, nil]]"},
		{picture(values(ref(0)), nil), 0, ".."},
		{picture(values(ref(0)), nil), 1, "[]"},
		{picture(values(hole(), ref(0), none()), nil), 12, "?, [], nil"},
		{picture(values(ref(0)), values(ref(1), num(3)), values(ref(2)), nil), 0, ".."},
		{picture(values(ref(0)), values(ref(1), num(3)), values(ref(2)), nil), 1, "[.., 3]"},
		{picture(values(ref(0)), values(ref(1), num(3)), values(ref(2)), nil), 2, "[[..], 3]"},
		{picture(values(ref(0)), values(ref(1), num(3)), values(ref(2)), nil), 3, "[[[]], 3]"},
		{picture(values(ref(0)), values(ref(1), num(3)), values(ref(2)), nil), 4, "[[[]], 3]"},
		{picture(values(ref(0)), chain(12)...), 12, "[[[[[[[[[[[[?]]]]]]]]]]]]"},
		{picture(values(ref(0)), chain(13)...), 12, "[[[[[[[[[[[[..]]]]]]]]]]]]"},
		{picture(values(ref(0)), values(ref(0))), 12, "[[[[[[[[[[[[..]]]]]]]]]]]]"},
	} {
		if s, e := cells.Show(x.p, x.deep); s != x.want || e != api.OK {
			t.Error(i, s, e)
		}
		if s := wantText(x.p, x.p.Values, x.deep); s != x.want {
			t.Error("oracle", i, s)
		}
	}
	for _, deep := range []int{-1, 13, 14, 100, least, greatest} {
		for _, p := range []api.Picture{{}, looped, picture(values(ref(0)), slices.Repeat(values(ref(0)), 100))} {
			if s, e := cells.Show(p, deep); s != "" || e != api.ErrRange {
				t.Error(deep, s, e)
			}
		}
	}
}

// P6.9, R7: texts of 2500 bytes, and of one more; texts that nobody could wait for.
func TestShowLimit(t *testing.T) {
	for more, want := range map[int]api.Errno{85: api.OK, 86: api.OK, 87: api.ErrLimit, 88: api.ErrLimit, 400: api.ErrLimit} {
		p := api.Picture{}
		for i := range 8 { // 300 bytes each, and two between two
			p.Values = append(p.Values, ref(i))
			p.Cells = append(p.Cells, slices.Repeat(values(num(1)), 100))
		}
		for i := range more {
			p.Cells[i/100][i%100] = num(10)
		}
		text := wantText(p, p.Values, 1)
		if len(text) != 2414+more {
			t.Fatal(len(text))
		}
		if want != api.OK {
			text = ""
		}
		for _, deep := range []int{1, 2, 12} {
			if s, e := cells.Show(p, deep); s != text || e != want {
				t.Error(more, deep, len(s), e)
			}
		}
		if s, e := cells.Show(p, 0); s != strings.Repeat(".., ", 7)+".." || e != api.OK {
			t.Error(more, s, e)
		}
	}
	for many := 2; many <= 100; many++ {
		for _, p := range []api.Picture{picture(values(ref(0)), slices.Repeat(values(ref(0)), many)), picture(slices.Repeat(values(ref(0)), many), slices.Repeat(values(ref(0)), 100))} {
			if s, e := cells.Show(p, 12); s != "" || e != api.ErrLimit {
				t.Error(many, s, e)
			}
		}
	}
}

// P6.7, P6.8, P6.9: random streams and pictures.
func TestStreamsRandom(t *testing.T) {
	r := rand.New(rand.NewSource(67))
	for range 2000 {
		p := anyPicture(t, r)
		for i, c := range p.Cells {
			if r.Intn(2) == 0 {
				p.Cells[i] = append(values(num(r.Intn(9))), c...)
			}
		}
		p, e := cells.Draw(memory(p.Cells...), p.Values)
		if e != api.OK {
			t.Fatal(p, e)
		}
		for n, v := range p.Values {
			want, rest := wantStream(p, v, 400)
			if l, end, e := cells.Stream(p, n); !slices.Equal(l, want) || end != rest || e != api.OK {
				t.Fatal(p, n, l, end, e)
			}
		}
		deep := r.Intn(6)
		text, want := wantText(p, p.Values, deep), api.OK
		if len(text) > 2500 {
			text, want = "", api.ErrLimit
		}
		if s, e := cells.Show(p, deep); s != text || e != want {
			t.Fatal(p, deep, s, e)
		}
	}
}
