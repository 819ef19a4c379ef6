package cells

import (
	"slices"

	"floodgate/api"
)

// isInteger reports whether a number is an integer of the language.
func isInteger(n int) bool { return n >= -api.MaxNumber && n <= api.MaxNumber }

// isValue reports whether a value is one, whatever structures there are.
func isValue(v api.Value) bool {
	switch v.Kind {
	case api.VHole, api.VNil:
		return v.N == 0
	case api.VInt:
		return isInteger(v.N)
	case api.VBool:
		return v.N == 0 || v.N == 1
	case api.VRef:
		return v.N >= 0
	case api.VBad:
		return v.N >= api.BadZero && v.N <= api.BadKind
	}
	return false
}

func isHole(v api.Value) bool { return v == api.Value{} }

func isBad(v api.Value) bool { return v.Kind == api.VBad }

func bad(n int) api.Value { return api.Value{Kind: api.VBad, N: n} }

func ref(n int) api.Value { return api.Value{Kind: api.VRef, N: n} }

func empty() api.Value { return api.Value{Kind: api.VNil} }

// integer returns a number, if it is an integer of the language.
func integer(n int) api.Value {
	if !isInteger(n) {
		return bad(api.BadRange)
	}
	return api.Value{Kind: api.VInt, N: n}
}

func boolean(is bool) api.Value {
	if is {
		return api.Value{Kind: api.VBool, N: 1}
	}
	return api.Value{Kind: api.VBool}
}

// wrong returns the first VBad of values that cannot be used as they are; a new one, if there is none.
func wrong(fault int, l ...api.Value) api.Value {
	if i := slices.IndexFunc(l, isBad); i >= 0 {
		return l[i]
	}
	return bad(fault)
}

// all reports whether all elements of a list are so.
func all[T any](l []T, so func(T) bool) bool {
	return !slices.ContainsFunc(l, func(x T) bool { return !so(x) })
}
