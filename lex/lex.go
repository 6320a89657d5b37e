// Package lex is layer 2: see shared/doc/02-lex.md.
package lex

import (
	"math"
	"strings"

	"changeling/api"
	"changeling/num"
)

// The classes of bytes, by the tokens that they begin; a tick only goes on with a name, and other bytes stand in remarks alone.
const (
	other = iota
	blank
	lower
	upper
	digit
	tick
	mark
	sign
)

// beyond is the text of 2^63, which only a `-` ahead makes a number: the source may have it all the same.
const beyond = "9223372036854775808"

// Word tells whether a text is a keyword.
func Word(s string) bool {
	switch s {
	case "data", "infixl", "infixr", "infix", "let", "in", "case", "of", "if", "then", "else":
		return true
	}
	return false
}

// Tokens are a source's tokens.
func Tokens(src string) ([]api.Token, api.Fault) {
	at := api.Pos{Line: 1, Col: 1}
	if len(src) > api.MaxSource {
		return nil, api.Fault{Err: api.ErrLong, At: at}
	}
	var l []api.Token
look:
	for i := 0; i < len(src); {
		if n := gap(src[i:]); n > 0 {
			at = behind(at, src[i:i+n])
			i += n
			continue look
		}
		t, err := first(src[i:])
		if err == api.OK && len(l) == api.MaxTokens {
			err = api.ErrLong
		}
		if err != api.OK {
			return nil, api.Fault{Err: err, At: at}
		}
		t.At = at
		l = append(l, t)
		at.Col += len(t.Text)
		i += len(t.Text)
	}
	return l, api.Fault{}
}

// One is the token that a text is.
func One(s string) (api.Token, bool) {
	l, fault := Tokens(s)
	if fault.Err != api.OK || len(l) != 1 || l[0].Text != s {
		return api.Token{}, false
	}
	return l[0], true
}

// class is a byte's class.
func class(c byte) int {
	switch c {
	case ' ', '\n':
		return blank
	case '_':
		return lower
	case '\'':
		return tick
	case '(', ')', '{', '}', ';', '\\':
		return mark
	case '!', '#', '$', '%', '&', '*', '+', '.', '/', ':', '<', '=', '>', '?', '@', '^', '|', '~', '-':
		return sign
	}
	switch {
	case 'a' <= c && c <= 'z':
		return lower
	case 'A' <= c && c <= 'Z':
		return upper
	case '0' <= c && c <= '9':
		return digit
	}
	return other
}

// gap is how many bytes of blanks s begins with, up to a line's end at most.
func gap(s string) int {
	remark := strings.HasPrefix(s, "--")
	n := 0
bytes:
	for ; n < len(s); n++ {
		switch {
		case s[n] == '\n':
			n++
			break bytes
		case !remark && class(s[n]) != blank:
			break bytes
		}
	}
	return n
}

// behind is the place behind blanks that stand at a place, and reach up to a line's end at most.
func behind(at api.Pos, blanks string) api.Pos {
	if strings.HasSuffix(blanks, "\n") {
		return api.Pos{Line: at.Line + 1, Col: 1}
	}
	at.Col += len(blanks)
	return at
}

// first is the token that s begins with, but for its place.
func first(s string) (api.Token, api.Errno) {
	c := class(s[0])
	if c == other || c == tick {
		return api.Token{}, api.ErrChar
	}
	// What is told shares no memory with the source.
	text := strings.Clone(s[:end(s, c)])
	if c == digit {
		return whole(text)
	}
	if len(text) > api.MaxName {
		return api.Token{}, api.ErrLong
	}
	return api.Token{Kind: kind(text, c), Text: text}, api.OK
}

// end is where the token ends that s begins with, its first byte being of the class c.
func end(s string, c int) int {
	n := 1
bytes:
	for ; n < len(s); n++ {
		next := class(s[n])
		switch c {
		case lower, upper:
			switch next {
			case lower, upper, digit, tick:
				continue bytes
			}
		case digit, sign:
			if next == c {
				continue bytes
			}
		}
		break bytes
	}
	return n
}

// whole is the token of some digits.
func whole(text string) (api.Token, api.Errno) {
	n, err := num.Parse(text)
	if text == beyond {
		n, err = math.MinInt64, api.OK
	}
	if err != api.OK {
		return api.Token{}, err
	}
	return api.Token{Kind: api.WInt, Text: text, N: n}, api.OK
}

// kind is the kind of a token that is no number, its first byte being of the class c.
func kind(text string, c int) int {
	switch text {
	case "_", "=", "|", "->":
		return api.WMark
	}
	switch {
	case Word(text):
		return api.WWord
	case c == mark:
		return api.WMark
	case c == upper:
		return api.WCon
	case c == sign:
		return api.WOp
	}
	return api.WName
}
