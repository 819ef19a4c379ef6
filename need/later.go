package need

import "floodgate/api"

// States of what is worked out later.
const (
	idle    uint8 = iota // nobody needed it yet
	working              // it was needed, and what it needs itself is not all known
	done                 // it is what it is
)

// later is a value that is worked out when it is needed, at most once.
type later struct {
	state uint8
	work  func() api.Value
	v     api.Value // VHole until it is done: so who needs it for itself gets a hole
}

// known returns what need not be worked out any more.
func known(v api.Value) *later { return &later{state: done, v: v} }

// need returns the value, which is worked out if nobody needed it before.
func (l *later) need() api.Value {
	if l.state == idle {
		l.state = working
		l.v = l.work()
		l.state, l.work = done, nil
	}
	return l.v
}
