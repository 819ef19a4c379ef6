package lex

import "floodgate/api"

// tokenList is one half of what a text consists of.
type tokenList struct{ tokens []api.Lexeme }

// gapList is the other half.
type gapList struct{ gaps []api.Stretch }

// reader is a text with what was read of it.
type reader struct {
	tokenList
	gapList
	vocabulary
	text string
}

// read reads a whole text; with an error the reader has nothing, and at is the place of it.
func read(s string) (r reader, at int, e api.Errno) {
	if at, e = Check(s); e != api.OK {
		return reader{}, at, e
	}
	r = reader{vocabulary: newVocabulary(), text: s}
	for at < len(s) {
		if at, e = r.step(at); e != api.OK {
			return reader{}, at, e
		}
	}
	return r, 0, api.OK
}

// step takes the gap or the token at a place, and returns the place behind it; with an error, the place itself.
func (r *reader) step(at int) (int, api.Errno) {
	rest := r.text[at:]
	if n := gap(rest); n > 0 {
		r.gaps = append(r.gaps, api.Stretch{From: at, To: at + n})
		return at + n, api.OK
	}
	x, ok := r.first(rest)
	if !ok {
		return at, api.ErrForm
	}
	if len(r.tokens) == api.MaxTokens {
		return at, api.ErrLimit
	}
	x.At = at
	r.tokens = append(r.tokens, x)
	return at + len(x.Text), api.OK
}
