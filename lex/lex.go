// Package lex is layer 1: texts, places in them, their tokens and gaps, and tokens written as texts again. See shared/doc/01-lex.md.
package lex

import (
	"slices"

	"floodgate/api"
)

// Read returns the tokens of a text.
func Read(s string) (l []api.Lexeme, at int, e api.Errno) {
	r, at, e := read(s)
	return r.tokens, at, e
}

// Gaps returns the gaps of a text.
func Gaps(s string) (l []api.Stretch, at int, e api.Errno) {
	r, at, e := read(s)
	return r.gaps, at, e
}

// Token returns the number of the token that has the byte at a place.
func Token(s string, at int) (int, api.Errno) {
	r, _, e := read(s)
	if e != api.OK {
		return 0, e
	}
	if at < 0 || at >= len(s) {
		return 0, api.ErrRange
	}
	n := slices.IndexFunc(r.tokens, func(x api.Lexeme) bool { return x.At <= at && at < x.At+len(x.Text) })
	if n < 0 {
		return 0, api.ErrNone
	}
	return n, api.OK
}

// Kind returns the kind of the token with a text.
func Kind(text string) (uint8, api.Errno) {
	x, ok := newVocabulary().first(text)
	if !ok || x.Text != text {
		return 0, api.ErrForm
	}
	return x.Kind, api.OK
}

// Apart reports whether two tokens need a gap.
func Apart(a, b api.Lexeme) (bool, api.Errno) {
	v := newVocabulary()
	if !v.right(a) || !v.right(b) {
		return false, api.ErrForm
	}
	return v.apart(a, b), api.OK
}

// Text returns the bare text of tokens.
func Text(l []api.Lexeme) (string, api.Errno) {
	return newVocabulary().write(l)
}

// Bare returns the bare text of the tokens of a text.
func Bare(s string) (text string, at int, e api.Errno) {
	r, at, e := read(s)
	return r.bare(r.tokens), at, e
}

// Turn puts the tokens of to wherever those of from stand, and returns the bare text of all, and how often it was done.
func Turn(s string, from, to []api.Lexeme) (text string, many int, e api.Errno) {
	r, _, e := read(s)
	if e != api.OK {
		return "", 0, e
	}
	if len(from) == 0 {
		return "", 0, api.ErrArg
	}
	if _, e = r.write(from); e != api.OK {
		return "", 0, e
	}
	if _, e = r.write(to); e != api.OK {
		return "", 0, e
	}
	all, many := replace(r.tokens, from, to)
	if text, e = r.write(all); e != api.OK {
		return "", 0, e
	}
	return text, many, api.OK
}
