package layout_test

import (
	"math"
	"slices"
	"strings"
	"testing"

	"changeling/api"
	"changeling/layout"
	"changeling/lex"
)

// again lays tokens by the chapter's steps once more, without a frame's number or order: what Lay answers is held against it.
type again struct {
	out    []api.Token
	frames []string
	cols   []int
	at     api.Pos
}

func (a *again) make(s string) {
	a.out = append(a.out, api.Token{Kind: api.WMark, Text: s, At: a.at, Made: true})
}

func (a *again) push(frame string, col int) {
	a.frames, a.cols = append(a.frames, frame), append(a.cols, col)
}

func (a *again) pop() string {
	n := len(a.frames) - 1
	top := a.frames[n]
	a.frames, a.cols = a.frames[:n], a.cols[:n]
	return top
}

// block is the innermost block and its column; "": there is none.
func (a *again) block() (string, int) {
	for i := len(a.frames) - 1; i >= 0; i-- {
		if a.frames[i] == "laid out" || a.frames[i] == "braced" {
			return a.frames[i], a.cols[i]
		}
	}
	return "", 0
}

// closeUpTo closes up to the topmost of these frames, unless one of those stands above it.
func (a *again) closeUpTo(frame string, unless ...string) {
	above := slices.Clone(a.frames)
	slices.Reverse(above)
	i := slices.Index(above, frame)
	if i < 0 || slices.ContainsFunc(above[:i], func(f string) bool { return slices.Contains(unless, f) }) {
		return
	}
	for range i + 1 {
		if a.pop() == "laid out" {
			a.make("}")
		}
	}
}

func mark(w api.Token, s string) bool { return w.Kind == api.WMark && w.Text == s }
func word(w api.Token, s string) bool { return w.Kind == api.WWord && w.Text == s }

// begin is step 1; it tells with which step it goes on.
func (a *again) begin(w api.Token) int {
	_, col := a.block()
	if mark(w, "{") {
		a.push("braced", 0)
		a.out = append(a.out, w)
		return 0
	}
	a.make("{")
	if w.At.Col > col {
		a.push("laid out", w.At.Col)
		return 3
	}
	a.make("}")
	return 2
}

// line is step 2, of its line's first token.
func (a *again) line(w api.Token) {
	for b, col := a.block(); b == "laid out" && col > w.At.Col; b, col = a.block() {
		for a.pop() != "laid out" {
		}
		a.make("}")
	}
	if b, col := a.block(); b == "laid out" && col == w.At.Col {
		a.make(";")
	}
}

// close is step 3.
func (a *again) close(w api.Token) {
	switch {
	case mark(w, ")"):
		a.closeUpTo("(", "braced")
	case mark(w, "}"):
		a.closeUpTo("braced")
	case word(w, "in"):
		a.closeUpTo("let", "braced", "(")
	case word(w, "of"):
		a.closeUpTo("case", "braced", "(")
	case word(w, "then"):
		a.closeUpTo("if", "braced", "(")
	case word(w, "else"):
		a.closeUpTo("then", "braced", "(")
	}
}

// tell is step 4.
func (a *again) tell(w api.Token) {
	a.out = append(a.out, w)
	switch {
	case mark(w, "("):
		a.push("(", 0)
	case mark(w, "{"):
		a.push("braced", 0)
	case word(w, "let"), word(w, "case"), word(w, "if"), word(w, "then"):
		a.push(w.Text, 0)
	}
}

func (a *again) lay(l []api.Token) []api.Token {
	a.at = api.Pos{Line: 1, Col: 1}
	due := true
	for i, w := range l {
		a.at = w.At
		next := 2
		if due {
			next = a.begin(w)
			due = false
		}
		if next == 0 {
			continue
		}
		if next == 2 && (i == 0 || l[i-1].At.Line != w.At.Line) {
			a.line(w)
		}
		a.close(w)
		a.tell(w)
		due = word(w, "let") || word(w, "of")
	}
	if due {
		a.make("{")
		a.make("}")
	}
	for len(a.frames) > 0 {
		if a.pop() == "laid out" {
			a.make("}")
		}
	}
	return a.out
}

// chain makes rows, always the same ones.
type chain uint32

func (c *chain) pick(n int) int {
	*c = *c*1664525 + 1013904223
	return int(*c>>16) % n
}

var words = []string{"a", "let", "in", "case", "of", "if", "then", "else", "(", ")", "{", "}"}

// sources calls f with each source of up to n of these words, however they stand in lines.
func sources(n int, src string, f func(string)) {
	if src != "" {
		f(src)
	}
	if n == 0 {
		return
	}
	for _, gap := range []string{" ", "\n", "\n ", "\n  "} {
		if src == "" && gap != " " {
			continue
		}
		for _, w := range words {
			sources(n-1, src+gap+w, f)
		}
	}
}

// strange are tokens that no source has: of other kinds, made ones, at any places.
func strange(c *chain, n int) []api.Token {
	l := make([]api.Token, n)
	line := 1
	for i := range l {
		if c.pick(3) == 0 {
			line += c.pick(4) - 1
		}
		s := words[c.pick(len(words))]
		l[i] = api.Token{Kind: api.WMark, Text: s, N: int64(i), At: api.Pos{Line: line, Col: c.pick(9) - 1}, Made: c.pick(5) == 0}
		if len(s) > 1 {
			l[i].Kind = api.WWord
		}
		if c.pick(9) == 0 {
			l[i].Kind = c.pick(8)
		}
	}
	return l
}

// every calls f with the tokens of all short sources, of longer ones that are wound deep, and with strange rows.
func every(t *testing.T, f func([]api.Token)) {
	f(nil)
	sources(3, "", func(src string) { f(tokens(t, src)) })
	c := chain(1)
	for range 20000 {
		var b strings.Builder
		b.WriteString(strings.Repeat(" ", c.pick(4)))
		for range c.pick(30) {
			b.WriteString(words[c.pick(len(words))])
			if c.pick(4) > 0 {
				b.WriteString(" ")
			} else {
				b.WriteString("\n" + strings.Repeat(" ", c.pick(16)))
			}
		}
		f(tokens(t, b.String()))
		f(strange(&c, c.pick(30)))
	}
}

// P4.1

func TestAsTheStepsSay(t *testing.T) {
	every(t, func(l []api.Token) {
		given := slices.Clone(l)
		got, want := layout.Lay(l), new(again).lay(l)
		if !slices.Equal(got, want) {
			t.Fatalf("Lay(%v): %s, not %s", l, text(got), text(want))
		}
		if !slices.Equal(l, given) {
			t.Fatalf("Lay changed %v to %v", given, l)
		}
	})
}

// P4.3, P4.4

func TestWhatIsNotMade(t *testing.T) {
	every(t, func(l []api.Token) {
		if slices.ContainsFunc(l, func(w api.Token) bool { return w.Made }) {
			return
		}
		var rest []api.Token
		open := 0
		for _, w := range layout.Lay(l) {
			switch {
			case !w.Made:
				rest = append(rest, w)
			case w.Text == "{":
				open++
			case w.Text == "}":
				open--
			}
			if open < 0 || w.Made && (w.Kind != api.WMark || w.N != 0 || !strings.Contains("{ } ;", w.Text)) {
				t.Fatalf("Lay(%v): %v is made", l, w)
			}
		}
		if open != 0 {
			t.Fatalf("Lay(%v): %d made braces are not closed", l, open)
		}
		if !slices.Equal(rest, l) {
			t.Fatalf("Lay(%v): what is not made is %v", l, rest)
		}
	})
}

// P4.5

func TestRealIsLaidAlike(t *testing.T) {
	every(t, func(l []api.Token) {
		twice := layout.Real(layout.Lay(l))
		if got := layout.Lay(twice); !slices.Equal(got, twice) {
			t.Fatalf("Lay(%v): %s, not %s", twice, text(got), text(twice))
		}
	})
}

// P4.6

func TestBracedBlocks(t *testing.T) {
	every(t, func(l []api.Token) {
		brace := api.Token{Kind: api.WMark, Text: "{"}
		row := []api.Token{brace}
		for _, w := range l {
			row = append(row, w)
			if w.Kind == api.WWord && (w.Text == "let" || w.Text == "of") {
				brace.At = w.At
				row = append(row, brace)
			}
		}
		if got := layout.Lay(row); !slices.Equal(got, row) {
			t.Fatalf("Lay(%v): %s", row, text(got))
		}
	})
}

// P4.7

func TestFurtherToTheRight(t *testing.T) {
	every(t, func(l []api.Token) {
		if slices.ContainsFunc(l, func(w api.Token) bool { return w.At.Col < 1 }) {
			return
		}
		for _, by := range []int{1, 7, math.MaxInt - 500} {
			shifted := func(l []api.Token) []api.Token {
				l = slices.Clone(l)
				for i := range l {
					l[i].At.Col += by
				}
				return l
			}
			want := layout.Lay(l)
			if len(l) > 0 {
				want = shifted(want)
			}
			if got := layout.Lay(shifted(l)); !slices.Equal(got, want) {
				t.Fatalf("Lay(%v), by %d to the right: %s, not %s", l, by, text(got), text(want))
			}
		}
	})
	for _, src := range []string{"x = 1\ny = let\n  a\n  b\nz", "f = case x of\n 1 -> 2\n 3 -> (let a\n  b)\ng"} {
		want := text(layout.Lay(tokens(t, src)))
		for n := range 9 {
			right := strings.Repeat(" ", n)
			lays(t, right+strings.ReplaceAll(src, "\n", "\n"+right), want)
		}
	}
}

// All tokens that a source may have, laid.
func TestFullSource(t *testing.T) {
	l, f := lex.Tokens(strings.Repeat("( a\n", api.MaxTokens/2))
	if f != (api.Fault{}) || len(l) != api.MaxTokens {
		t.Fatal(len(l), f)
	}
	want := api.MaxTokens + 2 + api.MaxTokens/2 - 1
	if got := layout.Lay(l); len(got) != want {
		t.Errorf("%d tokens, not %d", len(got), want)
	}
}
