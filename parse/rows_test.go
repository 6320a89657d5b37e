package parse_test

import (
	"fmt"
	"slices"
	"strings"
	"testing"

	"changeling/api"
	"changeling/fix"
	"changeling/lex"
	"changeling/parse"
)

// row is a row as a test makes it: each operand is of texts and rows.
type row struct {
	operands [][]any
	ops      []string
}

// words are a source's words, and where rows stand among them.
type words []any

var rowOps = []string{"+", "-", "*", "<", "==", "!", "&&", "."}

// last is an operand that reaches as far as it can: nothing of its row stands behind it.
func (c *chain) last(depth int) []any {
	switch c.pick(3) {
	case 0:
		return []any{"\\", "x", "_", "->", c.row(depth)}
	case 1:
		return []any{"if", c.row(depth), "then", c.row(depth), "else", c.row(depth)}
	}
	return []any{"let", "{", "a", "x", "=", c.row(depth), ";", "a", "_", "|", c.row(depth), "=", c.row(depth), "|", c.row(depth), "=", c.row(depth), ";", "(", "+", ")", "=", c.row(depth), "}", "in", c.row(depth)}
}

func (c *chain) operand(depth int) []any {
	if depth > 0 {
		switch c.pick(8) {
		case 0, 1:
			return []any{"(", c.row(depth), ")"}
		case 2:
			return []any{"f", "(", c.row(depth), ")", "1", "(", c.row(depth), ")"}
		case 3:
			return []any{"case", c.row(depth), "of", "{", "C", "x", "->", c.row(depth), ";", "_", "|", c.row(depth), "->", c.row(depth), "}"}
		}
	}
	switch c.pick(5) {
	case 0:
		return []any{"(", "-", "1", ")"}
	case 1:
		return []any{"(", c.word(rowOps), ")"}
	case 2:
		return []any{"f", "C"}
	}
	return []any{c.word([]string{"a", "b", "0", "D"})}
}

// row makes a row; the deeper it stands, the less is in it.
func (c *chain) row(depth int) *row {
	r := &row{operands: [][]any{c.operand(depth - 1)}}
	for range c.pick(2 + depth) {
		r.ops = append(r.ops, c.word(rowOps))
		r.operands = append(r.operands, c.operand(depth-1))
	}
	if depth > 0 && c.pick(4) == 0 {
		r.operands[len(r.ops)] = c.last(depth - 1)
	}
	return r
}

// source is a program of rows that tells how some operators bind, ahead of their use or behind it.
func (c *chain) source() (words, []api.Fix) {
	var ways []api.Fix
	l := words{"{"}
	tell := func() {
		f := api.Fix{Op: c.word(rowOps), Assoc: c.pick(3), Level: c.pick(10)}
		if c.pick(2) == 0 {
			f.Level = f.Assoc
		}
		ways = append(ways, f)
		l = append(l, []string{"infix", "infixl", "infixr"}[f.Assoc], fmt.Sprint(f.Level), f.Op, ";")
	}
	for range c.pick(3) {
		tell()
	}
	l = append(l, "f", "x", "=", c.row(2), ";")
	for range c.pick(3) {
		tell()
	}
	l = append(l, "g", "|", c.row(1), "=", c.row(2), "|", c.row(1), "=", c.row(1), ";")
	for range c.pick(3) {
		tell()
	}
	return append(l, "}"), ways
}

// writer writes words, and keeps each operator's place.
type writer struct {
	strings.Builder
	at     api.Pos
	places map[*row][]api.Pos
	ways   []api.Fix
	c      *chain
}

func (w *writer) way(op string) api.Fix {
	for _, f := range w.ways {
		if f.Op == op {
			return f
		}
	}
	return fix.Default(op)
}

func (w *writer) put(s string) api.Pos {
	gap := " "
	if w.c != nil {
		gap = w.c.word([]string{" ", " ", "  ", "\n", "\n  "})
	}
	w.WriteString(gap)
	for i := range gap {
		w.at.Col++
		if gap[i] == '\n' {
			w.at = api.Pos{Line: w.at.Line + 1, Col: 1}
		}
	}
	at := w.at
	w.WriteString(s)
	w.at.Col += len(s)
	return at
}

func (w *writer) all(l []any, write func(*row)) {
	for _, x := range l {
		switch x := x.(type) {
		case string:
			w.put(x)
		case *row:
			write(x)
		}
	}
}

// plain writes a row as it is.
func (w *writer) plain(r *row) {
	for i, l := range r.operands {
		if i > 0 {
			w.places[r] = append(w.places[r], w.put(r.ops[i-1]))
		}
		w.all(l, w.plain)
	}
}

// ways of a row's operators.
func (w *writer) waysOf(r *row) []api.Fix {
	var l []api.Fix
	for _, op := range r.ops {
		l = append(l, w.way(op))
	}
	return l
}

// grouped writes a row with brackets wherever one may be, so that nothing is left to how operators bind.
func (w *writer) grouped(r *row) {
	ways := w.waysOf(r)
	var group func(from, to int)
	group = func(from, to int) {
		w.put("(")
		defer w.put(")")
		if from == to {
			w.all(r.operands[from], w.grouped)
			return
		}
		root := from
		for i := from; i < to; i++ {
			if ways[i].Level < ways[root].Level || ways[i].Level == ways[root].Level && ways[i].Assoc == api.FixLeft {
				root = i
			}
		}
		group(from, root)
		w.put(r.ops[root])
		group(root+1, to)
	}
	group(0, len(r.ops))
}

// clash is the first operator that clashes with one ahead of it: rows from the outside in, then by their operands from the left.
func (w *writer) clash(l []any) (api.Pos, bool) {
	for _, x := range l {
		r, ok := x.(*row)
		if !ok {
			continue
		}
		ways := w.waysOf(r)
		for j := range ways {
			for i := range j {
				meet := ways[i].Level == ways[j].Level
				for _, f := range ways[i+1 : j] {
					meet = meet && f.Level > ways[i].Level
				}
				if meet && (ways[i].Assoc != ways[j].Assoc || ways[i].Assoc == api.FixNone) {
					return w.places[r][j], true
				}
			}
		}
		for _, operand := range r.operands {
			if at, ok := w.clash(operand); ok {
				return at, ok
			}
		}
	}
	return api.Pos{}, false
}

// P6.1: rows within rows: what they group to, or the first that clash. P6.4: what stands in brackets more.

func TestRows(t *testing.T) {
	c := chain(5)
	clashed, grouped := 0, 0
	for range 5000 {
		l, ways := c.source()
		w := &writer{at: api.Pos{Line: 1, Col: 1}, places: map[*row][]api.Pos{}, ways: ways, c: &c}
		w.all(l, w.plain)
		if at, ok := w.clash(l); ok {
			clashed++
			fails(t, w.String(), api.Fault{Err: api.ErrFix, At: at})
			continue
		}
		grouped++
		p := read(t, w.String())
		placed(t, w.String(), p)
		b := &writer{ways: ways}
		b.all(l, b.grouped)
		if len(b.String()) > api.MaxSource {
			continue
		}
		if got, want := tellProgram(parse.Strip(p)), tellProgram(parse.Strip(read(t, b.String()))); got != want {
			t.Fatalf("Program(%q):\n%s, not\n%s", w.String(), got, want)
		}
	}
	if clashed < 500 || grouped < 500 {
		t.Error(clashed, grouped)
	}
}

// The same of expressions, with ways of binding handed in.

func TestRowsOfExpressions(t *testing.T) {
	c := chain(6)
	for range 5000 {
		var ways []api.Fix
		for range c.pick(8) {
			ways = append(ways, api.Fix{Op: c.word(rowOps), Assoc: c.pick(3), Level: c.pick(10), At: api.Pos{Line: c.pick(9)}})
		}
		l := []any{c.row(2)}
		w := &writer{at: api.Pos{Line: 1, Col: 1}, places: map[*row][]api.Pos{}, ways: ways}
		w.all(l, w.plain)
		if at, ok := w.clash(l); ok {
			failsExpr(t, w.String(), ways, api.Fault{Err: api.ErrFix, At: at})
			continue
		}
		e := readExpr(t, w.String(), ways...)
		b := &writer{ways: ways}
		b.all(l, b.grouped)
		want := tellExpr(parse.Bare(e))
		for _, src := range []string{b.String(), "(" + w.String() + ")", "{" + w.String() + "}", "((" + b.String() + "))", "( -- (\n " + w.String() + " )"} {
			if got := tellExpr(parse.Bare(readExpr(t, src, ways...))); got != want {
				t.Fatalf("Expr(%q): %s, and of %q: %s", w.String(), want, src, got)
			}
		}
	}
}

// placed asks whether all of a program that has a name, a number or a first word stands where that token does.
func placed(t *testing.T, src string, p api.Program) {
	t.Helper()
	l, _ := lex.Tokens(src)
	at := map[api.Pos]string{}
	for _, w := range l {
		at[w.At] = w.Text
	}
	seen := map[api.Pos]bool{}
	here := func(where api.Pos, s string) {
		t.Helper()
		if at[where] != s || seen[where] {
			t.Fatalf("Program(%q): %q at %v", src, s, where)
		}
		seen[where] = true
	}
	for _, f := range p.Fixes {
		here(f.At, f.Op)
	}
	for _, b := range p.Binds {
		placedBind(b, here)
	}
}

func placedBind(b api.Bind, here func(api.Pos, string)) {
	here(b.At, b.Name)
	for _, c := range b.Clauses {
		for _, p := range c.Pats {
			placedPat(p, here)
		}
		placedRhs(c.Rhs, here)
	}
}

func placedRhs(l []api.Rhs, here func(api.Pos, string)) {
	for _, r := range l {
		for _, e := range r.Guard {
			placedExpr(e, here)
		}
		placedExpr(r.Body, here)
	}
}

func placedPat(p api.Pat, here func(api.Pos, string)) {
	switch p.Kind {
	case api.PVar, api.PCon:
		here(p.At, p.Name)
	case api.PInt:
		here(p.At, strings.TrimPrefix(fmt.Sprint(p.N), "-"))
	}
	for _, a := range p.Args {
		placedPat(a, here)
	}
}

func placedExpr(e api.Expr, here func(api.Pos, string)) {
	switch e.Kind {
	case api.EVar, api.ECon:
		here(e.At, e.Name)
	case api.EInt:
		here(e.At, strings.TrimPrefix(fmt.Sprint(e.N), "-"))
	case api.EApp:
		if e.At != e.Args[0].At {
			here(e.At, "an operator")
		}
	case api.ELam:
		here(e.At, "\\")
	case api.ELet:
		here(e.At, "let")
	case api.ECase:
		here(e.At, "case")
	case api.EIf:
		here(e.At, "if")
	}
	for _, b := range e.Binds {
		placedBind(b, here)
	}
	for _, a := range e.Args {
		placedExpr(a, here)
	}
	for _, a := range e.Alts {
		placedPat(a.Pat, here)
		placedRhs(a.Rhs, here)
	}
}

// topTexts are tops, some of several lines.
var topTexts = []string{
	"data A = A", "data B a b = B a (B b a) | C\n  | D", "infixl 6 +", "infixr 3 !", "infix 2 <",
	"f x = x + 1", "f 0 = case 1 of { 1 -> 2 }", "f _\n | 1 = 2\n | 3 < 4 = 5", "(+) a b = a", "(!) = f\n (1 ! 2 ! 3)", "g = let { a = 1; b = 2 } in\n a",
	"g = \\ x ->\n  x", "h | 1 = 2", "h (C (- 1) _) = if 1\n then 2\n else 3",
}

func (c *chain) tops(n int, pool []string) []string {
	l := make([]string, n)
	for i := range l {
		l[i] = c.word(pool)
	}
	return l
}

// readable tells whether a program's operators don't clash, and reads it, if it is so.
func readable(t *testing.T, src string) (string, bool) {
	t.Helper()
	p, f := parse.Program(src)
	if f.Err != api.OK && f.Err != api.ErrFix {
		t.Fatalf("Program(%q): %v", src, f)
	}
	return tellProgram(parse.Strip(p)), f.Err == api.OK
}

// P6.5

func TestTopsPartedOtherwise(t *testing.T) {
	c := chain(7)
	for range 1000 {
		tops := c.tops(c.pick(9), topTexts)
		want, ok := readable(t, strings.Join(tops, "\n"))
		same := func(src string) {
			t.Helper()
			if got, alike := readable(t, src); got != want || alike != ok {
				t.Fatalf("Program(%q):\n%s, not\n%s", src, got, want)
			}
		}
		for _, between := range []string{"\n\n\n", "\n-- ; f = 1\n", "\n \n"} {
			same(strings.Join(tops, between))
		}
		for _, between := range []string{";", " ; ", ";;", "\n;\n", ";\n", "\n; "} {
			src := strings.Join(tops, between)
			same(src)
			same(";" + src + ";")
			same("{" + src + "}")
			same("{\n;" + src + ";\n}")
		}
		same("   " + strings.ReplaceAll(strings.Join(tops, "\n"), "\n", "\n   "))
	}
}

// P6.6

func TestTopsBehindOneAnother(t *testing.T) {
	pool := slices.DeleteFunc(slices.Clone(topTexts), func(s string) bool { return strings.HasPrefix(s, "infix") })
	c := chain(8)
	for range 3000 {
		a, b := c.tops(c.pick(6), pool), c.tops(c.pick(6), pool)
		p, q := parse.Strip(read(t, strings.Join(a, "\n"))), parse.Strip(read(t, strings.Join(b, ";")))
		if n := len(p.Binds); n > 0 && len(q.Binds) > 0 && p.Binds[n-1].Name == q.Binds[0].Name {
			continue
		}
		src := strings.Join(slices.Concat(a, b), "\n")
		both := parse.Strip(read(t, src))
		want := api.Program{Datas: slices.Concat(p.Datas, q.Datas), Binds: slices.Concat(p.Binds, q.Binds)}
		if got, want := tellProgram(both), tellProgram(want); got != want {
			t.Fatalf("Program(%q):\n%s, not\n%s", src, got, want)
		}
	}
}
