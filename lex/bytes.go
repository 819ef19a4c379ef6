package lex

import "slices"

func isPrinted(c byte) bool { return c >= 32 && c <= 126 }

func isFeed(c byte) bool { return c == '\n' }

func isBlank(c byte) bool { return c == ' ' }

func isLetter(c byte) bool { return c >= 'a' && c <= 'z' }

func isDigit(c byte) bool { return c >= '0' && c <= '9' }

// prefix returns how many bytes at the beginning of a string are of one of the sorts.
func prefix(s string, sorts ...func(byte) bool) int {
	for i := range len(s) {
		if !slices.ContainsFunc(sorts, func(is func(byte) bool) bool { return is(s[i]) }) {
			return i
		}
	}
	return len(s)
}

// gap returns how many bytes long the gap at the beginning of a string is.
func gap(s string) int {
	n := 0
	for n < len(s) {
		if s[n] == '~' {
			n += prefix(s[n:], func(c byte) bool { return !isFeed(c) })
			continue
		}
		blanks := prefix(s[n:], isBlank, isFeed)
		if blanks == 0 {
			return n
		}
		n += blanks
	}
	return n
}
