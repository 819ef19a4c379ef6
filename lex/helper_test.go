package lex_test

import (
	"math/rand"
	"regexp"
	"strconv"
	"strings"

	"floodgate/api"
	"floodgate/lex"
)

func at(kind uint8, text string, at int) api.Lexeme {
	return api.Lexeme{Kind: kind, Text: text, At: at}
}

func word(s string) api.Lexeme { return at(api.WordToken, s, 0) }

func name(s string) api.Lexeme { return at(api.NameToken, s, 0) }

func number(s string) api.Lexeme { return at(api.NumberToken, s, 0) }

func sign(s string) api.Lexeme { return at(api.SignToken, s, 0) }

// guess makes the tokens of a text without places from a text whose words stand apart, by how they look.
func guess(s string) []api.Lexeme {
	var l []api.Lexeme
	for _, x := range strings.Fields(s) {
		switch c := x[0]; {
		case c >= '0' && c <= '9':
			l = append(l, number(x))
		case c < 'a' || c > 'z':
			l = append(l, sign(x))
		case isKeyword(x):
			l = append(l, word(x))
		default:
			l = append(l, name(x))
		}
	}
	return l
}

func isKeyword(s string) bool {
	return regexp.MustCompile(`^(and|array|bool|by|def|do|else|empty|false|give|head|if|in|int|loop|next|nil|not|or|size|stream|tail|true|while)$`).MatchString(s)
}

// bareLexemes are tokens without their places.
func bareLexemes(l []api.Lexeme) []api.Lexeme {
	var m []api.Lexeme
	for _, x := range l {
		m = append(m, at(x.Kind, x.Text, 0))
	}
	return m
}

// readAgain reads a text in another way than the package does, to compare with it.
func readAgain(s string) (l []api.Lexeme, gaps []api.Stretch, place int, e api.Errno) {
	if len(s) > 2500 {
		return nil, nil, 0, api.ErrLimit
	}
	if i := strings.IndexFunc(s, func(r rune) bool { return r != '\n' && (r < 32 || r > 126) }); i >= 0 {
		return nil, nil, i, api.ErrForm
	}
	form := regexp.MustCompile(`^(?:((?:[ \n]|~[^\n]*)+)|([a-z][a-z0-9]*)|([0-9]+)|(::|:=|->|\.\.|==|!=|<=|>=|[-<>=+*/%#()\[\]{},;:]))`)
	for i := 0; i < len(s); {
		m := form.FindStringSubmatch(s[i:])
		if m == nil {
			return nil, nil, i, api.ErrForm
		}
		n, _ := strconv.Atoi(m[3])
		if m[2] != "" && !isKeyword(m[2]) && len(m[2]) > 12 || m[3] != "" && (len(m[3]) > 10 || n > 1000000000 || len(m[3]) > 1 && m[3][0] == '0') {
			return nil, nil, i, api.ErrForm
		}
		if m[1] == "" && len(l) == 900 {
			return nil, nil, i, api.ErrLimit
		}
		switch {
		case m[1] != "":
			gaps = append(gaps, api.Stretch{From: i, To: i + len(m[0])})
		case isKeyword(m[2]):
			l = append(l, at(api.WordToken, m[2], i))
		case m[2] != "":
			l = append(l, at(api.NameToken, m[2], i))
		case m[3] != "":
			l = append(l, at(api.NumberToken, m[3], i))
		default:
			l = append(l, at(api.SignToken, m[4], i))
		}
		i += len(m[0])
	}
	return l, gaps, 0, api.OK
}

// randomText puts pieces together, most of which begin tokens, some of which begin none.
func randomText(r *rand.Rand, most int) string {
	pieces := append([]string{" ", "\n", "~", "~ a ! 07\n", "a", "b1", "abcdefghijkl", "abcdefghijklm", "0", "1", "42", "1000000000"}, api.Signs()...)
	pieces = append(pieces, api.Keywords()...)
	odd := []string{"!", ".", "?", "A", "_", "00", "1000000001", "\t", "\x7f", "\xff"}
	var b strings.Builder
	for range r.Intn(most) {
		if r.Intn(60) == 0 {
			b.WriteString(odd[r.Intn(len(odd))])
			continue
		}
		b.WriteString(pieces[r.Intn(len(pieces))])
	}
	return b.String()
}

// goodTexts are random texts that are read without an error.
func goodTexts(seed int64, many, most int) []string {
	r := rand.New(rand.NewSource(seed))
	var l []string
	for len(l) < many {
		if s := randomText(r, most); isGood(s) {
			l = append(l, s)
		}
	}
	return l
}

func isGood(s string) bool {
	_, _, e := lex.Read(s)
	return e == api.OK
}
