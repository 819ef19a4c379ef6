package lex

import (
	"slices"
	"strconv"
	"strings"

	"floodgate/api"
)

// vocabulary is what must be known to tell one token from another. A call builds it once, since building it again for each token would take most of its time.
type vocabulary struct {
	keywords map[string]bool
	signs    []string
}

func newVocabulary() vocabulary {
	v := vocabulary{keywords: map[string]bool{}, signs: api.Signs()}
	for _, w := range api.Keywords() {
		v.keywords[w] = true
	}
	return v
}

// first returns the token that a string begins with, and whether it begins with one.
func (v vocabulary) first(s string) (api.Lexeme, bool) {
	if prefix(s, isLetter) > 0 {
		return v.word(s[:prefix(s, isLetter, isDigit)])
	}
	if n := prefix(s, isDigit); n > 0 {
		return number(s[:n])
	}
	return v.sign(s)
}

func (v vocabulary) word(text string) (api.Lexeme, bool) {
	if v.keywords[text] {
		return api.Lexeme{Kind: api.WordToken, Text: text}, true
	}
	if len(text) > api.MaxName {
		return api.Lexeme{}, false
	}
	return api.Lexeme{Kind: api.NameToken, Text: text}, true
}

func number(text string) (api.Lexeme, bool) {
	n, err := strconv.Atoi(text)
	// Written again, a number has no 0 at its beginning, so that 00 is none either.
	if err != nil || n > api.MaxNumber || strconv.Itoa(n) != text {
		return api.Lexeme{}, false
	}
	return api.Lexeme{Kind: api.NumberToken, Text: text}, true
}

func (v vocabulary) sign(s string) (api.Lexeme, bool) {
	// The longer signs are listed first, so the first one that fits is the longest.
	i := slices.IndexFunc(v.signs, func(sign string) bool { return strings.HasPrefix(s, sign) })
	if i < 0 {
		return api.Lexeme{}, false
	}
	return api.Lexeme{Kind: api.SignToken, Text: v.signs[i]}, true
}

// right reports whether a token is right.
func (v vocabulary) right(x api.Lexeme) bool {
	y, ok := v.first(x.Text)
	return ok && alike(x, y)
}

// apart reports whether two right tokens need a gap. If the first one is read as it is, then so is the second one, since nothing stands behind it.
func (v vocabulary) apart(a, b api.Lexeme) bool {
	x, ok := v.first(a.Text + b.Text)
	return !ok || !alike(x, a)
}

// write returns the bare text of tokens that may not be right, or be too many.
func (v vocabulary) write(l []api.Lexeme) (string, api.Errno) {
	if len(l) > api.MaxTokens {
		return "", api.ErrLimit
	}
	if !every(l, v.right) {
		return "", api.ErrForm
	}
	text := v.bare(l)
	if len(text) > api.MaxText {
		return "", api.ErrLimit
	}
	return text, api.OK
}

// bare returns the bare text of right tokens.
func (v vocabulary) bare(l []api.Lexeme) string {
	var b strings.Builder
	for i, x := range l {
		// No sign is longer than two bytes, so it is enough to look at each token and the next one.
		if i > 0 && v.apart(l[i-1], x) {
			b.WriteByte(' ')
		}
		b.WriteString(x.Text)
	}
	return b.String()
}
