package lex

import (
	"slices"

	"floodgate/api"
)

// every reports whether all elements of a list pass.
func every[T any](l []T, pass func(T) bool) bool {
	for _, x := range l {
		if !pass(x) {
			return false
		}
	}
	return true
}

// alike reports whether two tokens are equal but for their places.
func alike(a, b api.Lexeme) bool {
	a.At, b.At = 0, 0
	return a == b
}

// begins reports whether a list begins with the tokens of another one.
func begins(l, with []api.Lexeme) bool {
	return len(l) >= len(with) && slices.EqualFunc(l[:len(with)], with, alike)
}

// replace puts the tokens of to wherever those of from stand, and returns how often it did. It stops as soon as the tokens are too many to be written.
func replace(l, from, to []api.Lexeme) (all []api.Lexeme, many int) {
	for len(l) > 0 && len(all) <= api.MaxTokens {
		if begins(l, from) {
			all = append(all, to...)
			l = l[len(from):]
			many++
			continue
		}
		all = append(all, l[0])
		l = l[1:]
	}
	return all, many
}
