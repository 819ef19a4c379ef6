package parse_test

import (
	"fmt"
	"math/rand"
	"slices"
	"testing"

	"floodgate/api"
	"floodgate/lex"
	"floodgate/parse"
)

// anyTree is a tree that is right, or nearly so, or not at all.
func anyTree(r *rand.Rand) api.Tree {
	x, _ := grown(r, 2, 2)
	switch r.Intn(4) {
	case 0:
		for range 3 {
			changed(r, &x)
		}
	case 1:
		x = api.Tree{}
		number := func() int {
			if r.Intn(10) == 0 {
				return int(r.Uint64())
			}
			return r.Intn(12) - 1
		}
		for range r.Intn(12) {
			n := api.TreeNode{Kind: uint8(r.Intn(70)), Text: []string{"", "a", "\xff"}[r.Intn(3)], N: number(), At: number()}
			for range r.Intn(4) {
				n.Kids = append(n.Kids, number())
			}
			x.Nodes = append(x.Nodes, n)
		}
		for range r.Intn(3) {
			x.Items = append(x.Items, number())
		}
	}
	return x
}

// anyText is a text, or one with wrong tokens, or a string of any bytes.
func anyText(r *rand.Rand) string {
	_, s := grown(r, 2, 2)
	switch r.Intn(4) {
	case 0:
		return s
	case 1, 2:
		return spoiled(r, s)
	}
	b := make([]byte, r.Intn(40))
	r.Read(b)
	return string(b)
}

// called tells what all functions answer.
func called(s string, a, b api.Tree, i, k int) string {
	var l []any
	put := func(x ...any) { l = append(l, x...) }
	x, at, e := parse.Parse(s)
	put(toldTree(x), at, e)
	x, flaws, at, e := parse.Recover(s)
	put(toldTree(x), flaws, at, e)
	text, e := parse.Print(a)
	put(text, e)
	text, e = parse.Show(a, i)
	put(text, e, parse.Check(a))
	n, e := parse.Parent(a, i)
	put(n, e)
	n, e = parse.First(a, i)
	put(n, e)
	n, e = parse.Kin(a, i, k)
	put(n, e)
	n, e = parse.Find(a, i)
	put(n, e)
	x, e = parse.Cut(a, i)
	put(toldTree(x), e)
	x, e = parse.Join(a, b)
	put(toldTree(x), e)
	same, e := parse.Same(a, b)
	put(same, e)
	return fmt.Sprint(l...)
}

// P1, P2, R4, R8: for any arguments there is an answer, it is the same again, and no argument is changed, nor what lies behind the end of a list.
func TestAnyArguments(t *testing.T) {
	r := rand.New(rand.NewSource(1))
	for range 1500 {
		s, a, b := anyText(r), clone(anyTree(r), 3), clone(anyTree(r), 3)
		copies := []api.Tree{clone(a, 3), clone(b, 3)}
		i, k := r.Intn(20)-2, r.Intn(20)-2
		first := called(s, a, b, i, k)
		if room(a) != room(copies[0]) || room(b) != room(copies[1]) {
			t.Fatalf("%s\n%s\n%s", s, room(a), room(b))
		}
		if again := called(s, a, b, i, k); again != first {
			t.Fatalf("%q\n%s\n%s", s, first, again)
		}
	}
}

// room tells a tree with what lies behind the ends of its lists.
func room(x api.Tree) string {
	nodes := slices.Clone(x.Nodes[:len(x.Nodes)+3])
	for i := range x.Nodes {
		nodes[i].Kids = nodes[i].Kids[:len(nodes[i].Kids)+3]
	}
	return fmt.Sprint(nodes, x.Items[:len(x.Items)+3])
}

// spoil changes all lists of a tree, with what lies behind their ends.
func spoil(x api.Tree) {
	for _, n := range x.Nodes {
		kids := n.Kids[:cap(n.Kids)]
		for i := range kids {
			kids[i] = -5
		}
	}
	nodes, items := x.Nodes[:cap(x.Nodes)], x.Items[:cap(x.Items)]
	for i := range nodes {
		nodes[i] = api.TreeNode{N: -5}
	}
	for i := range items {
		items[i] = -5
	}
}

// P2, R4: results share no memory with arguments, nor with later results.
func TestNewMemory(t *testing.T) {
	x := tree(t, twoItems)
	before := toldTree(x)
	for i, f := range []func() api.Tree{
		func() api.Tree { y, _, _ := parse.Parse(twoItems); return y },
		func() api.Tree { y, _, _, _ := parse.Recover(twoItems); return y },
		func() api.Tree { y, _ := parse.Cut(x, 0); return y },
		func() api.Tree { y, _ := parse.Cut(x, 1); return y },
		func() api.Tree { y, _ := parse.Join(x, x); return y },
		func() api.Tree { y, _ := parse.Join(x, api.Tree{}); return y },
		func() api.Tree { y, _ := parse.Join(api.Tree{}, x); return y },
	} {
		first := f()
		told := toldTree(first)
		spoil(first)
		if toldTree(x) != before || toldTree(f()) != told {
			t.Error(i, toldTree(x))
		}
	}
	_, flaws, _, _ := parse.Recover("x\nx\nx")
	flaws[0].At = 9
	if _, flaws, _, _ := parse.Recover("x\nx\nx"); len(flaws) != 1 || flaws[0].At != 0 {
		t.Error(flaws)
	}
}

// R4: no two lists of a result share memory.
func TestOwnMemory(t *testing.T) {
	r := rand.New(rand.NewSource(4))
	for range 100 {
		_, s := grown(r, 3, 3)
		x := tree(t, s)
		y, _, _, _ := parse.Recover(s + "\nx")
		z, _ := parse.Join(x, api.Tree{})
		for _, l := range []api.Tree{x, y, z} {
			before := toldTree(l)
			for i := range l.Nodes {
				kids := l.Nodes[i].Kids
				kept := slices.Clone(kids)
				all := kids[:cap(kids)]
				for k := range all {
					all[k] = -5
				}
				copy(kids, kept)
			}
			if toldTree(l) != before {
				t.Fatal(s)
			}
		}
	}
}

// R3: nil and empty lists are the same.
func TestNilAndEmpty(t *testing.T) {
	x := tree(t, twoItems)
	y := clone(x, 0)
	for i := range y.Nodes {
		if len(y.Nodes[i].Kids) == 0 {
			x.Nodes[i].Kids, y.Nodes[i].Kids = nil, []int{}
		}
	}
	same, e := parse.Same(x, y)
	text, f := parse.Print(y)
	want, _ := parse.Print(x)
	if !same || text != want || e != api.OK || f != api.OK || parse.Check(y) != api.OK {
		t.Error(same, text, e, f)
	}
	empty := api.Tree{Nodes: []api.TreeNode{}, Items: []int{}}
	text, e = parse.Print(empty)
	if parse.Check(empty) != api.OK || parse.Check(api.Tree{}) != api.OK || text != "" || e != api.OK {
		t.Error(text, e)
	}
}

// P2.1, P2.2: the errors of texts are those of lex.Read.
func TestTextErrors(t *testing.T) {
	r := rand.New(rand.NewSource(8))
	for range 300 {
		b := []byte(anyText(r))
		for range r.Intn(3) {
			if len(b) > 0 {
				b[r.Intn(len(b))] = "!?A.\x00\x7f\xff0"[r.Intn(8)]
			}
		}
		s := string(b)
		_, place, want := lex.Read(s)
		if want == api.OK {
			continue
		}
		x, at, e := parse.Parse(s)
		y, flaws, where, f := parse.Recover(s)
		if at != place || where != place || e != want || f != want || len(x.Nodes)+len(x.Items)+len(y.Nodes)+len(y.Items)+len(flaws) != 0 {
			t.Fatalf("%q %d %v %d %v", s, at, e, where, f)
		}
	}
}
