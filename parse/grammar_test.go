package parse_test

import (
	"slices"
	"strings"
	"testing"

	"changeling/api"
	"changeling/layout"
	"changeling/lex"
	"changeling/parse"
)

// The chapter's grammar once more, a rule a line: what Program and Expr answer is held against what can be derived from it. A tick is ahead of what stands there as it is; SIGNED is an INT behind its sign.
const grammar = `
program = '{ tops '}
alone = '{ expr '}
tops = otop
tops = tops '; otop
otop =
otop = top
top = 'data CON names '= constrs
top = infix DIGIT OP
top = clause
infix = 'infixl
infix = 'infixr
infix = 'infix
names =
names = names NAME
constrs = constr
constrs = constrs '| constr
constr = CON atypes
atypes =
atypes = atypes atype
type = btype
type = btype '-> type
btype = CON atypes
btype = NAME
btype = '( type ')
atype = CON
atype = NAME
atype = '( type ')
clause = fname apats eqbody
fname = NAME
fname = '( OP ')
apats =
apats = apats apat
eqbody = '= expr
eqbody = eqguards
eqguards = eqguard
eqguards = eqguards eqguard
eqguard = '| expr '= expr
toguards = toguard
toguards = toguards toguard
toguard = '| expr '-> expr
pat = CON apats
pat = apat
apat = NAME
apat = '_
apat = INT
apat = CON
apat = '( '- SIGNED ')
apat = '( pat ')
expr = operand
expr = expr OP operand
operand = '\ params '-> expr
operand = 'let '{ clauses '} 'in expr
operand = 'if expr 'then expr 'else expr
operand = 'case expr 'of '{ alts '}
operand = aexps
aexps = aexp
aexps = aexps aexp
params = param
params = params param
param = NAME
param = '_
semis =
semis = semis ';
clauses = semis clause
clauses = clauses ';
clauses = clauses '; clause
alts = semis alt
alts = alts ';
alts = alts '; alt
alt = pat '-> expr
alt = pat toguards
aexp = NAME
aexp = CON
aexp = INT
aexp = '( OP ')
aexp = '( '- SIGNED ')
aexp = '( expr ')
`

type rule struct {
	left  string
	right []string
}

// item is a rule, how much of it has been found, and behind how many tokens it began.
type item struct{ rule, dot, from int }

// finder finds what the rules derive, token by token (as Earley has it): sets[i] is what may go on behind i tokens.
type finder struct {
	rules    []rule
	byLeft   map[string][]int
	nullable map[string]bool
	tokens   []api.Token
	sets     [][]item
}

func newFinder(start string) *finder {
	f := &finder{byLeft: map[string][]int{}, nullable: map[string]bool{}}
	for _, line := range strings.Split("start = "+start+grammar, "\n") {
		if line == "" {
			continue
		}
		w := strings.Fields(line)
		f.byLeft[w[0]] = append(f.byLeft[w[0]], len(f.rules))
		f.rules = append(f.rules, rule{w[0], w[2:]})
		if len(w) == 2 {
			f.nullable[w[0]] = true
		}
	}
	// Of the rules above but `tops = otop` makes more of them nothing.
	f.nullable["tops"] = true
	f.sets = [][]item{f.closure([]item{{0, 0, 0}}, 0)}
	return f
}

// closure is the items that follow from some behind so many tokens.
func (f *finder) closure(l []item, at int) []item {
	have := map[item]bool{}
	var all []item
	add := func(x item) {
		if !have[x] {
			have[x] = true
			all = append(all, x)
		}
	}
	for _, x := range l {
		add(x)
	}
	for i := 0; i < len(all); i++ {
		x := all[i]
		r := f.rules[x.rule]
		if x.dot == len(r.right) {
			behind := all
			if x.from < at {
				behind = f.sets[x.from]
			}
			for _, y := range behind {
				if s := f.rules[y.rule].right; y.dot < len(s) && s[y.dot] == r.left {
					add(item{y.rule, y.dot + 1, y.from})
				}
			}
			continue
		}
		s := r.right[x.dot]
		for _, n := range f.byLeft[s] {
			add(item{n, 0, at})
		}
		if f.nullable[s] {
			add(item{x.rule, x.dot + 1, x.from})
		}
	}
	return all
}

func fits(s string, w api.Token) bool {
	switch s {
	case "NAME":
		return w.Kind == api.WName
	case "CON":
		return w.Kind == api.WCon
	case "OP":
		return w.Kind == api.WOp
	case "INT", "SIGNED":
		return w.Kind == api.WInt
	case "DIGIT":
		return w.Kind == api.WInt && len(w.Text) == 1
	}
	return s == "'"+w.Text && w.Kind != api.WName && w.Kind != api.WCon
}

// fault is the first fault that some tokens have in the grammar.
func (f *finder) fault(l []api.Token) api.Fault {
	same := 0
	for same < len(l) && same < len(f.tokens) && same < len(f.sets)-1 && l[same].Kind == f.tokens[same].Kind && l[same].Text == f.tokens[same].Text {
		same++
	}
	f.tokens, f.sets = slices.Clone(l), f.sets[:same+1]
	for i, w := range l {
		var on []item
		unsigned := false
		for _, x := range f.sets[i] {
			if r := f.rules[x.rule]; x.dot < len(r.right) && fits(r.right[x.dot], w) {
				on = append(on, item{x.rule, x.dot + 1, x.from})
				unsigned = unsigned || r.right[x.dot] == "INT"
			}
		}
		if len(on) == 0 {
			return api.Fault{Err: api.ErrParse, At: w.At}
		}
		if unsigned && w.Text == "9223372036854775808" {
			return api.Fault{Err: api.ErrNumber, At: w.At}
		}
		if i == len(f.sets)-1 {
			f.sets = append(f.sets, f.closure(on, i+1))
		}
	}
	if !slices.Contains(f.sets[len(l)], item{0, 1, 0}) {
		return api.Fault{Err: api.ErrParse, At: l[len(l)-1].At}
	}
	return api.Fault{}
}

// viable tells whether the grammar has all of what was looked at last, but for what was made in its end.
func (f *finder) viable() bool {
	n := len(f.tokens)
	for n > 0 && f.tokens[n-1].Made {
		n--
	}
	return len(f.sets) > n
}

// judge holds Program and Expr against the grammar.
type judge struct {
	t              *testing.T
	program, alone *finder
}

func newJudge(t *testing.T) *judge {
	return &judge{t, newFinder("program"), newFinder("alone")}
}

// look looks at a source, and tells whether something goes on behind it.
func (j *judge) look(src string) bool {
	j.t.Helper()
	l, f := lex.Tokens(src)
	if f != (api.Fault{}) {
		fails(j.t, src, f)
		failsExpr(j.t, src, nil, f)
		return false
	}
	l = layout.Lay(l)
	want := j.program.fault(l)
	p, got := parse.Program(src)
	// The rows are another matter: but then the grammar has been found to be kept.
	if got != want && !(got.Err == api.ErrFix && want.Err == api.OK) || got.Err != api.OK && !empty(p) {
		j.t.Fatalf("Program(%q): %v, not %v", src, got, want)
	}
	want = j.alone.fault(l)
	e, got := parse.Expr(src, nil)
	if got != want && !(got.Err == api.ErrFix && want.Err == api.OK) || got.Err != api.OK && !emptyExpr(e) {
		j.t.Fatalf("Expr(%q): %v, not %v", src, got, want)
	}
	return j.program.viable() || j.alone.viable()
}

var alphabet = []string{"f", "C", "+", "-", "1", "10", "9223372036854775808", "(", ")", "{", "}", ";", "_", "=", "|", "->", "\\",
	"data", "infixl", "infixr", "infix", "let", "in", "case", "of", "if", "then", "else"}

// grow looks at all sources of up to n words more behind one with which something goes on.
func (j *judge) grow(src string, n int) {
	j.t.Helper()
	if !j.look(src) || n == 0 {
		return
	}
	for _, w := range alphabet {
		j.grow(src+" "+w, n-1)
	}
}

// P6.1, P6.2: the first token with which nothing goes on.

func TestAllShortSources(t *testing.T) {
	j := newJudge(t)
	for _, stem := range []string{
		"", "{", "{ f", "{ f (", "{ f (C", "{ f = 1", "{ f |", "{ f | 1 =", "{ f =", "{ f = (", "{ f = (1", "{ f = 1 +", "{ f = \\", "{ f = \\ f ->",
		"{ f = if 1", "{ f = if 1 then 1", "{ f = if 1 then 1 else", "{ f = let {", "{ f = let { f = 1", "{ f = let { f = 1 }", "{ f = case 1",
		"{ f = case 1 of {", "{ f = case 1 of { _", "{ f = case 1 of { _ -> 1", "{ f = case 1 of { _ | 1",
		"{ data", "{ data C", "{ data C =", "{ data C = C", "{ data C = C (", "{ data C = C (f", "{ data C = C (C", "{ infix", "{ infixl 1", "{ infixr 1 +",
	} {
		j.grow(stem, 3)
	}
	for _, stem := range []string{"f", "f = 1", "f = (", "f = let", "f = let f = 1", "f = case 1 of", "f = case 1 of 1 -> 2", "f = if 1 then", "data C =", "infixl 1 +"} {
		j.grow(stem, 3)
	}
}

// chain makes choices, always the same ones.
type chain uint32

func (c *chain) pick(n int) int {
	*c = *c*1664525 + 1013904223
	return int(*c>>16) % n
}

func (c *chain) word(l []string) string { return l[c.pick(len(l))] }

// Sources wound deep, laid by their lines or braced: word by word what goes on, and then all that does not.

func TestLongSources(t *testing.T) {
	j := newJudge(t)
	c := chain(1)
	for range 120 {
		src := c.word([]string{"", "{", " ", "f = ", "{ f ="})
		for range c.pick(60) {
			gap := c.word([]string{" ", " ", " ", " ", "\n ", "\n  ", "\n    ", "\n        ", "\n"})
			more := src
			for range 30 {
				if more = src + gap + c.word(alphabet); j.look(more) {
					break
				}
			}
			src = more
		}
	}
}

// rightSources have no fault.
var rightSources = []string{
	"f x (C _ 0) (- 1) | x = 1 + 2\n  | C = f (- 3)\n(+) x y = y - x",
	"data A a b = B | C a (A b (a -> C)) | D\ninfixl 6 +\ninfixr 9 *\ninfix 0 -\nf = A",
	"f = let x = 1\n        y _ = \\ a _ -> a + x\n    in case y 1 of\n      C z -> z\n      _ | 1 -> 2\n        | 3 -> 4\ng = if f then (g) else (+) 1 2",
	"{ f = let { ; g 1 = 1; ; h = 2 } in 3; ; g = case (- 1) of { 1 -> 2; ; (C) -> \\ x -> x } + 1; }",
}

// Right sources with one word more, less, or another one.

func TestOneWordOff(t *testing.T) {
	j := newJudge(t)
	for _, src := range rightSources {
		read(t, src)
		l, _ := lex.Tokens(src)
		lines := strings.Split(src, "\n")
		for _, w := range l {
			ahead, behind := "", ""
			for i, line := range lines {
				switch {
				case i+1 < w.At.Line:
					ahead += line + "\n"
				case i+1 == w.At.Line:
					ahead, behind = ahead+line[:w.At.Col-1], line[w.At.Col-1:]
				default:
					behind += "\n" + line
				}
			}
			rest := behind[len(w.Text):]
			j.look(ahead)
			j.look(ahead + rest)
			for _, other := range alphabet {
				j.look(ahead + other + " " + behind)
				j.look(ahead + " " + other + rest)
			}
		}
	}
}
