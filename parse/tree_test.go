package parse_test

import (
	"math"
	"math/rand"
	"slices"
	"strings"
	"testing"

	"floodgate/api"
	"floodgate/parse"
)

const twoItems = "def f(a: int) -> int { b = a; give b + 1 } def g() -> int { give 2 }"

// P2.5: parents, first nodes, kin.
func TestAround(t *testing.T) {
	x := tree(t, twoItems)
	for i, want := range []int{1, 10, 10, 5, 5, 9, 8, 8, 9, 10, -1, 14, 13, 14, -1} {
		if up, e := parse.Parent(x, i); up != want || e != api.OK {
			t.Error(i, up, e)
		}
	}
	for i, want := range []int{0, 0, 2, 3, 4, 3, 6, 7, 6, 3, 0, 11, 12, 12, 11} {
		if first, e := parse.First(x, i); first != want || e != api.OK {
			t.Error(i, first, e)
		}
	}
	for i, want := range [][3]int{{4, 7, 9}, {6, 7, 8}, {5, 4, 5}, {0, 2, 10}, {3, 3, 3}, {0, 12, -1}, {11, 13, 14}, {10, 10, 10}, {10, 14, -1}, {14, 10, -1}, {0, 0, 0}, {0, 10, 10}, {10, 11, -1}, {14, 11, 14}, {2, 5, 10}, {5, 8, 9}} {
		if kin, e := parse.Kin(x, want[0], want[1]); kin != want[2] || e != api.OK {
			t.Error(i, kin, e)
		}
		if kin, e := parse.Kin(x, want[1], want[0]); kin != want[2] || e != api.OK {
			t.Error(i, kin, e)
		}
	}
}

// P2.5, P2.4: nodes that there are not.
func TestNoNode(t *testing.T) {
	for _, x := range []api.Tree{{}, tree(t, twoItems)} {
		for _, n := range []int{-1, len(x.Nodes), math.MinInt, math.MaxInt} {
			a, e1 := parse.Parent(x, n)
			b, e2 := parse.First(x, n)
			c, e3 := parse.Kin(x, n, n)
			text, e4 := parse.Show(x, n)
			if e1 != api.ErrNone || e2 != api.ErrNone || e3 != api.ErrNone || e4 != api.ErrNone || a != 0 || b != 0 || c != 0 || text != "" {
				t.Error(n, a, e1, b, e2, c, e3, text, e4)
			}
			if len(x.Nodes) == 0 {
				continue
			}
			a, e1 = parse.Kin(x, 0, n)
			b, e2 = parse.Kin(x, n, 14)
			if e1 != api.ErrNone || e2 != api.ErrNone || a != 0 || b != 0 {
				t.Error(n, a, e1, b, e2)
			}
		}
	}
}

// P2.5, P2.12: in random trees, as parents say it.
func TestAroundRandom(t *testing.T) {
	r := rand.New(rand.NewSource(12))
	for range 100 {
		x, _ := grown(r, 3, 3)
		parents := make([]int, len(x.Nodes))
		for i := range parents {
			parents[i] = -1
		}
		for i, n := range x.Nodes {
			for _, kid := range n.Kids {
				parents[kid] = i
			}
		}
		up := func(i int) (l []int) {
			for ; i >= 0; i = parents[i] {
				l = append(l, i)
			}
			return l
		}
		for range min(30, len(x.Nodes)) {
			a, b := r.Intn(len(x.Nodes)), r.Intn(len(x.Nodes))
			if r.Intn(2) == 0 {
				b = max(0, a-r.Intn(12))
			}
			parent, e := parse.Parent(x, a)
			first := 0
			for !slices.Contains(up(first), a) {
				first++
			}
			from, f := parse.First(x, a)
			if parent != parents[a] || from != first || e != api.OK || f != api.OK {
				t.Fatal(toldTree(x), a, parent, from, e, f)
			}
			want := -1
			for _, node := range up(a) {
				if slices.Contains(up(b), node) {
					want = node
					break
				}
			}
			kin, e := parse.Kin(x, a, b)
			if kin != want || e != api.OK {
				t.Fatal(toldTree(x), a, b, kin, want, e)
			}
			if parent >= 0 {
				if kin, e := parse.Kin(x, a, parent); kin != parent || e != api.OK {
					t.Fatal(a, parent, kin, e)
				}
			}
		}
	}
}

// P2.6: the first node with a place.
func TestFind(t *testing.T) {
	x := tree(t, twoItems)
	for i, n := range x.Nodes {
		if found, e := parse.Find(x, n.At); found != i || e != api.OK {
			t.Error(i, found, e)
		}
	}
	for _, at := range []int{-1, 1, 5, 24, 2500, 2501, math.MinInt, math.MaxInt} {
		if found, e := parse.Find(x, at); found != 0 || e != api.ErrNone {
			t.Error(at, found, e)
		}
	}
	if found, e := parse.Find(api.Tree{}, 0); found != 0 || e != api.ErrNone {
		t.Error(found, e)
	}
	x.Nodes[3].At, x.Nodes[7].At, x.Nodes[14].At = 2500, 2500, 2500
	if found, e := parse.Find(x, 2500); found != 3 || e != api.OK {
		t.Error(found, e)
	}
}

// P2.7: items that are cut, and trees that are joined.
func TestCutAndJoin(t *testing.T) {
	x := tree(t, twoItems)
	one, e := parse.Cut(x, 0)
	if want := "inttype@9 param:a[0]@6 inttype@17 bind:b@23 name:a@27 set=1[3,4]@25 name:b@35 num=1@39 add[6,7]@37 block=1[5,8]@21 def:f=1[1,2,9]@0 items [10]"; toldTree(one) != want || e != api.OK {
		t.Error(toldTree(one), e)
	}
	two, e := parse.Cut(x, 1)
	if want := "inttype@54 num=2@65 block[1]@58 def:g[0,2]@43 items [3]"; toldTree(two) != want || e != api.OK {
		t.Error(toldTree(two), e)
	}
	back, e := parse.Join(two, one)
	if want := "inttype@54 num=2@65 block[1]@58 def:g[0,2]@43 inttype@9 param:a[4]@6 inttype@17 bind:b@23 name:a@27 set=1[7,8]@25 name:b@35 num=1@39 add[10,11]@37 block=1[9,12]@21 def:f=1[5,6,13]@0 items [3 14]"; toldTree(back) != want || e != api.OK {
		t.Error(toldTree(back), e)
	}
	for i, y := range []api.Tree{{}, x} {
		a, e := parse.Join(x, y)
		b, f := parse.Join(y, x)
		if e != api.OK || f != api.OK || len(a.Items) != 2+2*i || i == 0 && (!equal(a, x) || !equal(b, x)) {
			t.Error(i, toldTree(a), toldTree(b), e, f)
		}
		for _, n := range []int{-1, len(y.Items), 3, math.MinInt, math.MaxInt} {
			if z, e := parse.Cut(y, n); len(z.Nodes)+len(z.Items) != 0 || e != api.ErrNone {
				t.Error(i, n, toldTree(z), e)
			}
		}
	}
	if y, e := parse.Join(api.Tree{}, api.Tree{}); len(y.Nodes)+len(y.Items) != 0 || e != api.OK {
		t.Error(y, e)
	}
}

// P2.7: the limits of what is joined.
func TestJoinLimits(t *testing.T) {
	items := func(n int) api.Tree { return tree(t, strings.Repeat("def f()->int{give 1}\n", n)) }
	nodes := func(n int) api.Tree { return built(flat(n)...) }
	for i, x := range []struct {
		a, b         api.Tree
		nodes, items int
		e            api.Errno
	}{
		{items(19), items(1), 80, 20, api.OK}, {items(20), items(1), 0, 0, api.ErrLimit}, {items(1), items(20), 0, 0, api.ErrLimit}, {items(20), api.Tree{}, 80, 20, api.OK}, {nodes(350), nodes(350), 700, 12, api.OK}, {nodes(350), nodes(351), 0, 0, api.ErrLimit}, {nodes(696), items(1), 700, 13, api.OK}, {nodes(697), items(1), 0, 0, api.ErrLimit}, {chain(30, 0), chain(30, 0), 62, 2, api.OK},
	} {
		y, e := parse.Join(x.a, x.b)
		if len(y.Nodes) != x.nodes || len(y.Items) != x.items || e != x.e || parse.Check(y) != api.OK {
			t.Error(i, len(y.Nodes), len(y.Items), e)
		}
	}
}

// P2.12: items that are cut and joined in their order are the tree; cut is also what stands in its text alone.
func TestPartsRandom(t *testing.T) {
	r := rand.New(rand.NewSource(22))
	for range 200 {
		x, s := grown(r, 4, 3)
		var all api.Tree
		for i := range x.Items {
			one, e := parse.Cut(x, i)
			if e != api.OK || len(one.Items) != 1 || parse.Check(one) != api.OK {
				t.Fatal(toldTree(x), i, toldTree(one), e)
			}
			end := len(s)
			if i+1 < len(x.Items) {
				end = x.Nodes[x.Items[i+1]].At
			}
			start := x.Nodes[x.Items[i]].At
			if alone := tree(t, strings.Repeat(" ", start)+s[start:end]); !equal(alone, one) {
				t.Fatal(toldTree(alone), toldTree(one))
			}
			if all, e = parse.Join(all, one); e != api.OK {
				t.Fatal(e)
			}
		}
		if !equal(all, x) {
			t.Fatal(toldTree(all), toldTree(x))
		}
	}
}

// P2.8: trees that are the same, and trees that differ in one place.
func TestSame(t *testing.T) {
	x := tree(t, twoItems)
	moved := tree(t, "~\n"+strings.ReplaceAll(twoItems, " ", "  "))
	for i, y := range []api.Tree{x, moved, clone(x, 3)} {
		if same, e := parse.Same(x, y); !same || e != api.OK {
			t.Error(i, same, e)
		}
	}
	for i, s := range []string{"", twoItems[:43], twoItems[43:], twoItems + twoItems[43:], strings.Replace(twoItems, "b = a", "c = a", 1), strings.Replace(twoItems, "+ 1", "+ 2", 1), strings.Replace(twoItems, "+", "-", 1), strings.Replace(twoItems, "a: int", "a: bool", 1), strings.Replace(twoItems, "f(a: int)", "f()", 1), strings.Replace(twoItems, "def g", "def h", 1), strings.Replace(twoItems, "b = a", "b: int = a", 1)} {
		y := tree(t, s)
		for _, l := range [][2]api.Tree{{x, y}, {y, x}} {
			if same, e := parse.Same(l[0], l[1]); same || e != api.OK {
				t.Error(i, same, e)
			}
		}
	}
	for _, x := range [][2]string{{"a + b + c", "a + (b + c)"}, {"-a + --a", "--a + -a"}, {"a :: b :: c", "(a :: b) :: c"}} {
		if same, e := parse.Same(tree(t, def(x[0])), tree(t, def(x[1]))); same || e != api.OK {
			t.Error(x, same, e)
		}
	}
	// Trees whose nodes differ in nothing but their kids.
	for _, x := range [][2]string{{"f(a, g())", "f(g(a))"}, {"f(a, b, g(c))", "f(a, g(b, c))"}} {
		if same, e := parse.Same(tree(t, def(x[0])), tree(t, def(x[1]))); same || e != api.OK {
			t.Error(x, same, e)
		}
	}
	if same, e := parse.Same(api.Tree{}, api.Tree{Nodes: []api.TreeNode{}, Items: []int{}}); !same || e != api.OK {
		t.Error(same, e)
	}
}
