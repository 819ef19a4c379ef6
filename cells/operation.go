package cells

import (
	"slices"

	"floodgate/api"
)

// operation is an operation on values: its operands are all of one kind, which is one of its kinds.
type operation struct {
	operands int
	kinds    []uint8
	gives    func(a, b int) api.Value // b is 0 if there is only one operand
}

// operations are all operations, by their names.
func operations() map[string]operation {
	m := map[string]operation{
		"eq":  {2, []uint8{api.VInt, api.VBool}, func(a, b int) api.Value { return boolean(a == b) }},
		"neg": {1, []uint8{api.VInt}, func(a, _ int) api.Value { return integer(-a) }},
		"not": {1, []uint8{api.VBool}, func(a, _ int) api.Value { return boolean(a == 0) }},
	}
	ofIntegers := func(name string, gives func(a, b int) api.Value) {
		m[name] = operation{2, []uint8{api.VInt}, gives}
	}
	ofIntegers("add", func(a, b int) api.Value { return integer(a + b) })
	ofIntegers("sub", func(a, b int) api.Value { return integer(a - b) })
	ofIntegers("mul", func(a, b int) api.Value { return integer(a * b) })
	ofIntegers("lt", func(a, b int) api.Value { return boolean(a < b) })
	ofIntegers("le", func(a, b int) api.Value { return boolean(a <= b) })
	ofIntegers("div", func(a, b int) api.Value {
		if b == 0 {
			return bad(api.BadZero)
		}
		return integer(a / b)
	})
	ofIntegers("mod", func(a, b int) api.Value {
		if b == 0 {
			return bad(api.BadZero)
		}
		return integer(a % b)
	})
	return m
}

// result returns the result of an operation, of as many values as it has operands.
func (op operation) result(l []api.Value) api.Value {
	if slices.ContainsFunc(l, isHole) {
		return api.Value{}
	}
	kind := l[0].Kind
	ofKind := func(v api.Value) bool { return v.Kind == kind }
	if !slices.Contains(op.kinds, kind) || !all(l, ofKind) {
		return wrong(api.BadKind, l...)
	}
	b := 0
	if len(l) > 1 {
		b = l[1].N
	}
	return op.gives(l[0].N, b)
}
