package need_test

import (
	"math/rand"
	"testing"

	"floodgate/api"
	"floodgate/cells"
	"floodgate/need"
)

// P7.1, P7.3, P7.4, P7.5: random programs, in all that is told of them.
func TestRandom(t *testing.T) {
	r := rand.New(rand.NewSource(71))
	many := map[string]int{}
	count := func(what string, is bool) {
		if is {
			many[what]++
		}
	}
	for _, x := range trees(1, 700, false) {
		o := agree(t, x, inputs(r, x))
		count("full", o.full)
		if o.full {
			continue
		}
		contexts, structs := o.count()
		count("contexts", contexts > 4)
		count("structures", structs > 4)
		count("knots", len(o.knots()) > 0)
		holes, blighted, both := false, false, false
		for f := range o.asked {
			is := o.table[f] == worth{}
			holes = holes || f.kind == 'v' && is
			blighted = blighted || f.kind == 'b'
			both = both || f.kind == 'b' && is && o.Nodes[f.node].Kind != api.NameNode
		}
		count("holes", holes)
		count("blighted", blighted)
		count("blighted holes", both)
	}
	for what, least := range map[string]int{"full": 9, "contexts": 50, "structures": 90, "knots": 20, "holes": 100, "blighted": 80, "blighted holes": 1} {
		if many[what] < least {
			t.Error(what, many[what])
		}
	}
}

// anyPicture is a picture of so many values of all kinds, with structures of all sizes.
func anyPicture(t *testing.T, r *rand.Rand, many int) api.Picture {
	t.Helper()
	m := api.Memory{Structs: make([]api.Struct, 4)}
	value := func() api.Value {
		if r.Intn(2) == 0 {
			return ref(r.Intn(len(m.Structs)))
		}
		all := allValues()
		return all[r.Intn(len(all))]
	}
	for i := range m.Structs {
		for range r.Intn(5) {
			m.Structs[i].Cells = append(m.Structs[i].Cells, value())
		}
	}
	var l []api.Value
	for range many {
		l = append(l, value())
	}
	p, e := cells.Draw(m, l)
	if e != api.OK {
		t.Fatal(m, l, e)
	}
	return p
}

// P7.2: random items, with values of any kinds.
func TestApplyRandom(t *testing.T) {
	r := rand.New(rand.NewSource(72))
	kinds := map[uint8]int{}
	for _, x := range trees(2, 250, false) {
		for item, node := range x.Items {
			for range 3 {
				p := anyPicture(t, r, x.Nodes[node].N)
				m, _ := cells.Memory(p)
				o := work(x, node, m, p.Values)
				q, e := need.Apply(x, item, p)
				if o.full != (e == api.ErrLimit) || !o.full && e != api.OK || !o.full && !samePicture(q, o.picture) || o.full && !isNothing(q) {
					t.Fatal(shown(x), item, p, q, o.picture, e)
				}
				for _, v := range q.Values {
					kinds[v.Kind]++
				}
			}
		}
	}
	for kind := api.VHole; kind <= api.VBad; kind++ {
		if kinds[kind] < 90 {
			t.Error(kind, kinds[kind])
		}
	}
}
