package lex

import (
	"strings"

	"floodgate/api"
)

// Check returns the error of a text, and the place of the first byte that may not be there.
func Check(s string) (at int, e api.Errno) {
	if len(s) > api.MaxText {
		return 0, api.ErrLimit
	}
	if n := prefix(s, isPrinted, isFeed); n < len(s) {
		return n, api.ErrForm
	}
	return 0, api.OK
}

// Lines returns the lines of a text, without their line feeds.
func Lines(s string) ([]string, api.Errno) {
	if _, e := Check(s); e != api.OK {
		return nil, e
	}
	return strings.Split(s, "\n"), api.OK
}

// Place returns the line and the column of a place.
func Place(s string, at int) (line, column int, e api.Errno) {
	if _, e := Check(s); e != api.OK {
		return 0, 0, e
	}
	if at < 0 || at > len(s) {
		return 0, 0, api.ErrRange
	}
	before := s[:at]
	// In the first line there is no line feed before: LastIndex answers -1, where one would stand.
	return 1 + strings.Count(before, "\n"), at - strings.LastIndex(before, "\n"), api.OK
}

// Offset returns the place with a line and a column.
func Offset(s string, line, column int) (int, api.Errno) {
	lines, e := Lines(s)
	if e != api.OK {
		return 0, e
	}
	if line < 1 || line > len(lines) {
		return 0, api.ErrRange
	}
	// The line feed, or the place behind the last byte, is a column too.
	if column < 1 || column > len(lines[line-1])+1 {
		return 0, api.ErrRange
	}
	at := column - 1
	for _, x := range lines[:line-1] {
		at += len(x) + 1
	}
	return at, api.OK
}
