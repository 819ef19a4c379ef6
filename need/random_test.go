package need_test

import (
	"math/rand"
	"testing"

	"floodgate/api"
)

// P7.1, P7.3, P7.4, P7.5: random programs, in all that is told of them.
func TestRandom(t *testing.T) {
	r := rand.New(rand.NewSource(71))
	many := map[string]int{}
	count := func(what string, is bool) {
		if is {
			many[what]++
		}
	}
	for _, x := range trees(1, 700, false) {
		o := agree(t, x, inputs(r, x))
		count("full", o.full)
		if o.full {
			continue
		}
		contexts, structs := o.count()
		count("contexts", contexts > 4)
		count("structures", structs > 4)
		count("knots", len(o.knots()) > 0)
		holes, blighted, both := false, false, false
		for f := range o.asked {
			is := o.table[f] == worth{}
			holes = holes || f.kind == 'v' && is
			blighted = blighted || f.kind == 'b'
			both = both || f.kind == 'b' && is && o.Nodes[f.node].Kind != api.NameNode
		}
		count("holes", holes)
		count("blighted", blighted)
		count("blighted holes", both)
	}
	for what, least := range map[string]int{"full": 9, "contexts": 50, "structures": 90, "knots": 20, "holes": 100, "blighted": 80, "blighted holes": 1} {
		if many[what] < least {
			t.Error(what, many[what])
		}
	}
}
