package ask

import (
	"strings"

	"raingauge/api"
)

// kind is what a token is.
type kind int

const (
	aWord kind = iota
	aNumber
	aText
	aMark
	theEnd // behind the last token, where one may be missing
)

// token is what stands at a place of a text, all its bytes: a TEXT has its two quotes, so that it is never taken for a mark or a word.
type token struct {
	kind kind
	said string
	at   int
}

const mostDigits = 18 // of a NUMBER: so many have always room in 64 bits

// marks are looked for in this order.
var marks = [15]string{"!=", "^=", "!^", "=", "{", "}", "[", "]", "(", ")", ",", "+", "-", "*", "/"}

// wrong is what is thrown.
func wrong(e api.Errno, at int) *api.At { return &api.At{Err: e, Place: at} }

// cut tells a text's tokens, and the end behind them. What is wrong is thrown.
func cut(s string) []token {
	var out []token
	at := 0
	for at < len(s) {
		if s[at] == ' ' {
			at++
			continue
		}
		what, size := begins(s[at:])
		if size == 0 {
			panic(wrong(api.ErrForm, at))
		}
		if what == aNumber && size > mostDigits || len(out) == api.MaxTokens {
			panic(wrong(api.ErrLimit, at))
		}
		out = append(out, token{kind: what, said: s[at : at+size], at: at})
		at += size
	}
	return append(out, token{kind: theEnd, at: at})
}

// begins tells which token a text (not the empty one) begins with, and how many bytes it has; 0: there is none.
func begins(s string) (kind, int) {
	switch c := s[0]; {
	case letter(c):
		return aWord, run(s, func(c byte) bool { return letter(c) || digit(c) })
	case digit(c):
		return aNumber, run(s, digit)
	case c == '"':
		return aText, quoted(s)
	}
	return aMark, marked(s)
}

func letter(c byte) bool { return c >= 'A' && c <= 'Z' || c >= 'a' && c <= 'z' || c == '_' }

func digit(c byte) bool { return c >= '0' && c <= '9' }

// run is how many bytes at a text's beginning are of a kind.
func run(s string, is func(c byte) bool) int {
	size := 0
	for size < len(s) && is(s[size]) {
		size++
	}
	return size
}

// quoted is how many bytes a TEXT has, with its quotes; 0: it is not ended.
func quoted(s string) int {
	inside := strings.IndexByte(s[1:], '"')
	if inside < 0 {
		return 0
	}
	return inside + 2
}

// marked is how many bytes the mark has that stands there; 0: there is none.
func marked(s string) int {
	for _, m := range marks {
		if strings.HasPrefix(s, m) {
			return len(m)
		}
	}
	return 0
}
