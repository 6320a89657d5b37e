package lex_test

import (
	"math"
	"math/big"
	"regexp"
	"slices"
	"strings"
	"testing"

	"changeling/api"
	"changeling/lex"
)

// The words of the chapter once more, as regular expressions: what Tokens answers is held against them.
var (
	gap    = regexp.MustCompile(`^(?: |\n|--[^\n]*)*`)
	piece  = regexp.MustCompile(`^(?:[a-z_][A-Za-z0-9_']*|[A-Z][A-Za-z0-9_']*|[0-9]+|[(){};\\]|[-!#$%&*+./:<=>?@^|~]+)`)
	number = regexp.MustCompile(`^(?:0|[1-9][0-9]*)$`)
)

// place is where the byte i of a source stands.
func place(src string, i int) api.Pos {
	return api.Pos{Line: 1 + strings.Count(src[:i], "\n"), Col: i - strings.LastIndexByte(src[:i], '\n')}
}

func kind(s string) int {
	switch {
	case strings.Contains(" _ = | -> ( ) { } ; \\ ", " "+s+" "):
		return api.WMark
	case strings.Contains(" "+strings.Join(keywords(), " ")+" ", " "+s+" "):
		return api.WWord
	case 'A' <= s[0] && s[0] <= 'Z':
		return api.WCon
	case '0' <= s[0] && s[0] <= '9':
		return api.WInt
	case strings.IndexByte(signs, s[0]) >= 0:
		return api.WOp
	}
	return api.WName
}

// plain is what Tokens must answer.
func plain(src string) ([]api.Token, api.Fault) {
	if len(src) > 8192 {
		return nil, fault(api.ErrLong, 1, 1)
	}
	var l []api.Token
	top := new(big.Int).Lsh(big.NewInt(1), 63)
	for i := 0; ; {
		i += len(gap.FindString(src[i:]))
		if i == len(src) {
			return l, api.Fault{}
		}
		w := api.Token{Text: piece.FindString(src[i:]), At: place(src, i)}
		if w.Text == "" {
			return nil, api.Fault{Err: api.ErrChar, At: w.At}
		}
		w.Kind = kind(w.Text)
		if w.Kind != api.WInt && len(w.Text) > 32 {
			return nil, api.Fault{Err: api.ErrLong, At: w.At}
		}
		if w.Kind == api.WInt {
			n, _ := new(big.Int).SetString(w.Text, 10)
			if !number.MatchString(w.Text) || n.Cmp(top) > 0 {
				return nil, api.Fault{Err: api.ErrNumber, At: w.At}
			}
			w.N = int64(n.Uint64())
		}
		if len(l) == 2048 {
			return nil, api.Fault{Err: api.ErrLong, At: w.At}
		}
		l = append(l, w)
		i += len(w.Text)
	}
}

// check holds Tokens and One against the chapter's words.
func check(t *testing.T, src string) {
	t.Helper()
	want, wrong := plain(src)
	l, f := lex.Tokens(src)
	if f != wrong || !slices.Equal(l, want) {
		t.Fatalf("Tokens(%q): %v, %v, not %v, %v", src, l, f, want, wrong)
	}
	w, ok := lex.One(src)
	if is := len(want) == 1 && want[0].Text == src; ok != is || ok && w != want[0] || !ok && w != (api.Token{}) {
		t.Fatalf("One(%q): %v, %v", src, w, ok)
	}
}

// all calls f with each text of up to n of these bytes.
func all(n int, bytes, s string, f func(string)) {
	f(s)
	if n == 0 {
		return
	}
	for i := range bytes {
		all(n-1, bytes, s+bytes[i:i+1], f)
	}
}

func TestAllShortSources(t *testing.T) {
	every := make([]byte, 256)
	for i := range every {
		every[i] = byte(i)
	}
	all(2, string(every), "", func(s string) { check(t, s) })
	all(4, "aZ01_'->=+( \n\"", "", func(s string) { check(t, s) })
}

// chain makes sources of pieces, always the same ones.
type chain uint32

func (c *chain) pick(n int) int {
	*c = *c*1664525 + 1013904223
	return int(*c>>16) % n
}

func (c *chain) join(pieces []string, n int) string {
	var b strings.Builder
	for range n {
		b.WriteString(pieces[c.pick(len(pieces))])
	}
	return b.String()
}

// right are pieces that no source is wrong by, however they are joined by blanks; wrong ones are wrong somewhere.
var (
	right = []string{
		"a", "f'", "_", "_x", "C", "True", "data", "let", "in", "of", "infixl", "0", "1", "42", "9223372036854775807", "9223372036854775808",
		"(", ")", "{", "}", ";", "\\", "=", "|", "->", "-", "+", "==", "/=", "<=", "&&", "+--", ">-", "~", "abcdefghijklmnopqrstuvwxyz012345", "==============================><",
	}
	blanks = []string{" ", "  ", "\n", " \n", "\n\n", "\n  ", " --\n", " -- it's \"so\" [\u00e4]\t\n", "\n---- x\n", "\n--\n --\n "}
	wrong  = []string{"\"", "'", "\t", "\xc3", "007", "9223372036854775809", "abcdefghijklmnopqrstuvwxyz0123456", "C23456789012345678901234567890123", "<<<<<<<<<<<<<<<<<<<<<<<<<<<<<<<<<"}
)

func TestLongerSources(t *testing.T) {
	c := chain(1)
	pieces := slices.Concat(right, blanks)
	few := slices.Concat(pieces, pieces, pieces, pieces, wrong)
	for range 5000 {
		check(t, c.join(pieces, 1+c.pick(40)))
		check(t, c.join(few, 1+c.pick(40)))
	}
	for range 20 {
		check(t, c.join(pieces, 2500))
	}
}

// row is n right pieces, joined by blanks, and what they must be told as, but for their places.
func row(c *chain, n int) (string, []api.Token) {
	var b strings.Builder
	var l []api.Token
	for range n {
		s := right[c.pick(len(right))]
		w := api.Token{Kind: kind(s), Text: s}
		if w.Kind == api.WInt {
			u, _ := new(big.Int).SetString(s, 10)
			w.N = int64(u.Uint64())
		}
		l = append(l, w)
		b.WriteString(s + blanks[c.pick(len(blanks))])
	}
	return b.String(), l
}

// bare is the tokens, but for their places.
func bare(t *testing.T, src string) []api.Token {
	t.Helper()
	l, f := lex.Tokens(src)
	if f != (api.Fault{}) {
		t.Fatalf("Tokens(%q): %v", src, f)
	}
	for i := range l {
		l[i].At = api.Pos{}
	}
	return l
}

// P2.3

func TestTextsAreTheTokens(t *testing.T) {
	c := chain(2)
	for range 2000 {
		src, want := row(&c, c.pick(60))
		l := bare(t, src)
		if !slices.Equal(l, want) {
			t.Fatalf("Tokens(%q): %v", src, l)
		}
		again := " "
		for _, w := range l {
			again += w.Text + blanks[c.pick(len(blanks))]
		}
		if !slices.Equal(bare(t, again), want) {
			t.Fatalf("Tokens(%q) and of the texts %q differ", src, again)
		}
	}
}

// P2.4

func TestPlaces(t *testing.T) {
	c := chain(3)
	pieces := slices.Concat(right, blanks)
	for range 2000 {
		src := c.join(pieces, 1+c.pick(60))
		l, _ := lex.Tokens(src)
		lines := strings.Split(src, "\n")
		last := api.Pos{}
		for _, w := range l {
			if w.At.Line < 1 || w.At.Line > len(lines) || w.At.Col < 1 || !strings.HasPrefix(lines[w.At.Line-1][min(w.At.Col-1, len(lines[w.At.Line-1])):], w.Text) {
				t.Fatalf("Tokens(%q): %v stands elsewhere", src, w)
			}
			if w.At.Line < last.Line || w.At.Line == last.Line && w.At.Col <= last.Col {
				t.Fatalf("Tokens(%q): %v stands ahead of the one before", src, w)
			}
			last = w.At
		}
	}
}

// P2.5

func TestMoreBlanks(t *testing.T) {
	c := chain(4)
	for range 2000 {
		src, want := row(&c, 1+c.pick(30))
		l, _ := lex.Tokens(src)
		w := l[c.pick(len(l))]
		i := offset(src, w.At)
		more := src[:i] + blanks[c.pick(len(blanks))] + src[i:]
		if !slices.Equal(bare(t, more), want) {
			t.Fatalf("Tokens(%q) and %q differ", src, more)
		}
	}
}

// offset is how many bytes stand ahead of a place.
func offset(src string, at api.Pos) int {
	i := 0
	for range at.Line - 1 {
		i += strings.IndexByte(src[i:], '\n') + 1
	}
	return i + at.Col - 1
}

// P2.6

func TestAheadOfAnError(t *testing.T) {
	c := chain(5)
	sources := []string{strings.Repeat("; ", api.MaxTokens+1), strings.Repeat("a\n", api.MaxTokens) + "\"", strings.Repeat("(", api.MaxTokens) + "00"}
	for _, w := range wrong {
		for range 200 {
			src, _ := row(&c, c.pick(30))
			sources = append(sources, src+w+" "+src)
		}
	}
	for _, src := range sources {
		l, f := lex.Tokens(src)
		if f.Err == api.OK || len(l) != 0 {
			t.Fatalf("Tokens(%q): %v, %v", src, l, f)
		}
		ahead := src[:offset(src, f.At)]
		if _, g := lex.Tokens(ahead); g != (api.Fault{}) {
			t.Fatalf("Tokens(%q): %v, and ahead of it %v", src, f, g)
		}
	}
}

// P1

func TestHugeTextsEnd(t *testing.T) {
	for _, s := range []string{"a", "A", "1", "0", "-", "+", " ", "\n", "(", "\"", "\xff", "let", "let ", "-- "} {
		long := strings.Repeat(s, 1<<20)
		if l, f := lex.Tokens(long); len(l) != 0 || f != fault(api.ErrLong, 1, 1) {
			t.Errorf("Tokens of many %q: %v", s, f)
		}
		if w, ok := lex.One(long); ok || w != (api.Token{}) {
			t.Errorf("One of many %q: %v", s, w)
		}
		if lex.Word(long) {
			t.Errorf("Word of many %q: true", s)
		}
	}
	if w, ok := lex.One("9223372036854775808"); !ok || w.N != math.MinInt64 {
		t.Error("2^63:", w, ok)
	}
}
