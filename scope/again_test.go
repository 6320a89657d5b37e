package scope_test

import (
	"fmt"
	"slices"
	"strings"
	"testing"

	"changeling/api"
	"changeling/decl"
	"changeling/lex"
	"changeling/parse"
	"changeling/scope"
	"changeling/show"
)

// The chapter's words once more: all that is wrong with a program, each with when it is looked at, found by going through it with all the names that are in scope told to each part.

// wrong is something that is wrong, and when it is looked at: the numbers that tell it are compared one by one.
type wrong struct {
	when  []int
	fault api.Fault
}

type wrongs []wrong

func (w *wrongs) add(err api.Errno, at api.Pos, when []int) {
	*w = append(*w, wrong{when, api.Fault{Err: err, At: at}})
}

// first is what is wrong first of all.
func (w wrongs) first() api.Fault {
	if len(w) == 0 {
		return api.Fault{}
	}
	return slices.MinFunc(w, func(a, b wrong) int { return slices.Compare(a.when, b.when) }).fault
}

// then is what is looked at within what is looked at.
func then(when []int, more ...int) []int { return slices.Concat(when, more) }

func isPrim(name string) bool {
	return slices.Contains(strings.Fields("+ - * / % == /= < <= > >="), name)
}

// fieldsOf is how many fields a constructor has, below 0 of none.
func fieldsOf(l []api.Data, name string) int {
	if name == "True" || name == "False" {
		return 0
	}
	for _, d := range l {
		for _, c := range d.Cons {
			if c.Name == name {
				return len(c.Fields)
			}
		}
	}
	return -1
}

// model finds what is wrong with a program of some data types.
type model struct {
	datas []api.Data
	wrongs
}

func allWrong(p api.Program) wrongs {
	m := &model{datas: p.Datas}
	if _, f := decl.New(p.Datas); f.Err != api.OK {
		m.add(f.Err, f.At, []int{0})
	}
	for i, x := range p.Fixes {
		for _, y := range p.Fixes[:i] {
			if x.Op == y.Op {
				m.add(api.ErrTwice, x.At, []int{1, i})
			}
		}
	}
	m.binds(p.Binds, nil, []int{2})
	return m.wrongs
}

func bindNames(l []api.Bind) []string {
	var all []string
	for _, b := range l {
		all = append(all, b.Name)
	}
	return all
}

func (m *model) binds(l []api.Bind, around []string, when []int) {
	inner := slices.Concat(around, bindNames(l))
	for i, b := range l {
		if isPrim(b.Name) {
			m.add(api.ErrPrim, b.At, then(when, 0, i, 0))
		}
		if slices.Contains(bindNames(l[:i]), b.Name) {
			m.add(api.ErrTwice, b.At, then(when, 0, i, 1))
		}
		if len(b.Clauses) > 1 && len(b.Clauses[0].Pats) == 0 {
			m.add(api.ErrTwice, b.At, then(when, 1, i, 0))
		}
		for j, c := range b.Clauses {
			if len(c.Pats) != len(b.Clauses[0].Pats) {
				m.add(api.ErrArity, b.At, then(when, 1, i, 1))
			}
			m.bodies(c.Pats, c.Rhs, inner, then(when, 1, i, 2, j))
		}
	}
}

func (m *model) bodies(pats []api.Pat, l []api.Rhs, around []string, when []int) {
	var vars []string
	for i, p := range pats {
		vars = m.pat(p, vars, then(when, 0, i))
	}
	for i, r := range l {
		for _, g := range r.Guard {
			m.expr(g, slices.Concat(around, vars), then(when, 1, i, 0))
		}
		m.expr(r.Body, slices.Concat(around, vars), then(when, 1, i, 1))
	}
}

// pat tells which variables there are, with those ahead.
func (m *model) pat(p api.Pat, ahead []string, when []int) []string {
	if p.Kind == api.PVar {
		if slices.Contains(ahead, p.Name) {
			m.add(api.ErrTwice, p.At, when)
		}
		return append(ahead, p.Name)
	}
	if n := fieldsOf(m.datas, p.Name); p.Kind == api.PCon && n < 0 {
		m.add(api.ErrNone, p.At, when)
	} else if p.Kind == api.PCon && n != len(p.Args) {
		m.add(api.ErrArity, p.At, when)
	}
	for i, a := range p.Args {
		ahead = m.pat(a, ahead, then(when, i))
	}
	return ahead
}

func (m *model) expr(e api.Expr, around []string, when []int) {
	inner := around
	switch e.Kind {
	case api.EVar:
		if !slices.Contains(around, e.Name) && !isPrim(e.Name) {
			m.add(api.ErrNone, e.At, when)
		}
	case api.ECon:
		if fieldsOf(m.datas, e.Name) < 0 {
			m.add(api.ErrNone, e.At, when)
		}
	case api.ELam:
		for i, x := range e.Params {
			if x != "_" && slices.Contains(e.Params[:i], x) {
				m.add(api.ErrTwice, e.At, when)
			}
		}
		inner = slices.Concat(around, e.Params)
	case api.ELet:
		m.binds(e.Binds, around, then(when, 0))
		inner = slices.Concat(around, bindNames(e.Binds))
	}
	for i, a := range e.Args {
		m.expr(a, inner, then(when, 1, i))
	}
	for i, a := range e.Alts {
		m.bodies([]api.Pat{a.Pat}, a.Rhs, around, then(when, 2, i))
	}
}

// chain makes choices, always the same.
type chain uint32

func (c *chain) pick(n int) int {
	*c = *c*1664525 + 1013904223
	return int(*c>>16) % n
}

func (c *chain) word(l ...string) string { return l[c.pick(len(l))] }

// making makes programs that may be; once in so many times something is wrong.
type making struct {
	chain
	wrong int
}

func (m *making) slip() bool { return m.pick(m.wrong) == 0 }

func (m *making) place() api.Pos { return at(m.pick(1<<10), m.pick(1<<10)) }

func (m *making) variable() string { return m.word("x", "y", "z", "u", "v", "w") }

// others are so many names, no two the same but by a slip.
func (m *making) others(n int, name func() string) []string {
	var l []string
	for len(l) < n {
		if s := name(); !slices.Contains(l, s) || m.slip() {
			l = append(l, s)
		}
	}
	return l
}

func (m *making) name(around []string) string {
	if len(around) == 0 || m.slip() {
		return m.word("+", "-", "==", "x", "!", "zz")
	}
	return around[m.pick(len(around))]
}

func (m *making) con() (string, int) {
	name, n := "N", 0
	switch m.pick(6) {
	case 0:
		name, n = "C", 2
	case 1:
		name, n = "D", 1
	case 2:
		name = m.word("True", "False")
	}
	if m.slip() {
		n = m.pick(4)
	}
	if m.slip() {
		name = m.word("Z", "L", "Int")
	}
	return name, n
}

func (m *making) pats(n, depth int, vars *[]string) []api.Pat {
	var l []api.Pat
	for range n {
		p := api.Pat{Kind: 1 + m.pick(4), At: m.place()}
		if depth > 0 && m.pick(2) == 0 {
			p.Kind = api.PCon
		}
		switch p.Kind {
		case api.PVar:
			p.Name = m.variable()
			if slices.Contains(*vars, p.Name) && !m.slip() {
				p.Kind, p.Name = api.PAny, ""
				break
			}
			*vars = append(*vars, p.Name)
		case api.PInt:
			p.N = int64(m.pick(3) - 1)
		case api.PCon:
			p.Name, n = m.con()
			if depth == 0 && n > 0 {
				p.Name, n = "N", 0
			}
			p.Args = m.pats(n, depth-1, vars)
		}
		l = append(l, p)
	}
	return l
}

func (m *making) bodies(depth int, around []string) []api.Rhs {
	if m.pick(2) == 0 {
		return []api.Rhs{{Body: m.expr(depth, around)}}
	}
	var l []api.Rhs
	for range 1 + m.pick(2) {
		l = append(l, api.Rhs{Guard: []api.Expr{m.expr(m.pick(depth+1), around)}, Body: m.expr(depth, around)})
	}
	return l
}

func (m *making) binds(n, depth int, around []string) []api.Bind {
	names := m.others(n, func() string {
		if m.slip() {
			return m.word("+", "<", "!", "x")
		}
		return m.word("f", "g", "h", "x", "!", "<>")
	})
	names = slices.Compact(names) // Two of one name, one behind the other, would be one binding.
	around = slices.Concat(around, names)
	var l []api.Bind
	for _, name := range names {
		b := api.Bind{Name: name, At: m.place()}
		pats, clauses := m.pick(3), 1
		if pats > 0 || m.slip() {
			clauses += m.pick(2)
		}
		for range clauses {
			n := pats
			if m.slip() {
				n = m.pick(4)
			}
			var vars []string
			c := api.Clause{Pats: m.pats(n, m.pick(3), &vars)}
			c.Rhs = m.bodies(depth, slices.Concat(around, vars))
			b.Clauses = append(b.Clauses, c)
		}
		l = append(l, b)
	}
	return l
}

func (m *making) expr(depth int, around []string) api.Expr {
	e := api.Expr{Kind: 1 + m.pick(8), At: m.place()}
	if depth == 0 {
		e.Kind = 1 + m.pick(3)
	}
	args := func(n int) []api.Expr {
		var l []api.Expr
		for range n {
			l = append(l, m.expr(m.pick(depth), around))
		}
		return l
	}
	switch e.Kind {
	case api.EVar:
		e.Name = m.name(around)
	case api.ECon:
		e.Name, _ = m.con()
	case api.EInt:
		e.N = int64(m.pick(3) - 1)
	case api.EApp:
		e.Args = args(2)
		if m.pick(2) == 0 {
			op := api.Expr{Kind: api.EVar, Name: m.word("+", "*", m.name(around)), At: m.place()}
			e.Args[0] = api.Expr{Kind: api.EApp, Args: []api.Expr{op, e.Args[0]}, At: m.place()}
		}
	case api.ELam:
		e.Params = m.others(1+m.pick(2), func() string { return m.word("_", m.variable()) })
		around = slices.Concat(around, slices.DeleteFunc(slices.Clone(e.Params), func(s string) bool { return s == "_" }))
		e.Args = args(1)
	case api.ELet:
		e.Binds = m.binds(1+m.pick(3), m.pick(depth), around)
		around = slices.Concat(around, bindNames(e.Binds))
		e.Args = args(1)
	case api.ECase:
		e.Args = args(1)
		for range 1 + m.pick(2) {
			var vars []string
			a := api.Alt{Pat: m.pats(1, m.pick(3), &vars)[0]}
			a.Rhs = m.bodies(m.pick(depth), slices.Concat(around, vars))
			e.Alts = append(e.Alts, a)
		}
	case api.EIf:
		e.Args = args(3)
	}
	return e
}

func (m *making) program() api.Program {
	a := api.Type{Kind: api.KVar, Name: "a"}
	p := api.Program{Datas: []api.Data{{Name: "L", Params: []string{"a"}, Cons: []api.Constr{{Name: "N"}, {Name: "C", Fields: []api.Type{a, a}}, {Name: "D", Fields: []api.Type{a}}}}}}
	if m.slip() && m.slip() {
		p.Datas[0].Cons[m.pick(3)] = api.Constr{Name: m.word("True", "Z"), At: m.place(), Fields: []api.Type{{Kind: api.KVar, Name: m.word("a", "b")}}}
	}
	for _, op := range m.others(m.pick(3), func() string { return m.word("!", "+", "<>", "?") }) {
		p.Fixes = append(p.Fixes, api.Fix{Op: op, At: m.place()})
	}
	p.Binds = m.binds(m.pick(4), 3, nil)
	return p
}

// P9.1

func TestManyPrograms(t *testing.T) {
	count := map[api.Errno]int{}
	m := &making{chain: 1}
	several := 0
	for i := range 40000 {
		m.wrong = 6 + i%60
		p := m.program()
		want := allWrong(p)
		if f := scope.Check(p); !show.Right(p) || f != want.first() {
			t.Fatalf("%v, not %v, of\n%s%v", f, want.first(), show.Program(p), p)
		}
		count[want.first().Err]++
		if len(want) > 2 {
			several++
		}
	}
	for _, err := range []api.Errno{api.OK, api.ErrTwice, api.ErrNone, api.ErrArity, api.ErrPrim} {
		if count[err] < 1000 {
			t.Error(count)
		}
	}
	if several < 2500 {
		t.Error(several)
	}
}

// faultless is a program without faults, that has a binding.
func (m *making) faultless() api.Program {
	m.wrong = 1 << 15
	for {
		if p := m.program(); len(p.Binds) > 0 && scope.Check(p) == (api.Fault{}) {
			return p
		}
	}
}

// P9.3

func TestUsesOfFaultless(t *testing.T) {
	m := &making{chain: 2}
	for range 5000 {
		p := m.faultless()
		for _, b := range p.Binds {
			for _, name := range scope.Uses(b) {
				if !isPrim(name) && !slices.Contains(bindNames(p.Binds), name) {
					t.Fatalf("%q in %s", name, show.Program(p))
				}
			}
		}
	}
}

// P9.4

func TestOneBindingMore(t *testing.T) {
	m := &making{chain: 3}
	for i := range 5000 {
		p := m.faultless()
		one := api.Bind{Name: []string{"zzz", "?", "u"}[i%3], Clauses: []api.Clause{{Rhs: []api.Rhs{{Body: api.Expr{Kind: api.EInt, N: int64(i)}}}}}}
		p.Binds = slices.Insert(p.Binds, m.pick(len(p.Binds)+1), one)
		if f := scope.Check(p); f != (api.Fault{}) {
			t.Fatalf("%v of %s", f, show.Program(p))
		}
	}
}

// stands is a name that stands in an expression: is it bound there?
type stands struct {
	name  string
	bound bool
}

// marked is an expression with each name that stands in it made one of its own, which tells its number among those that were found; all that binds stays.
type marked struct{ found []stands }

// own is a name of its own: of a variable q and the number, of an operator signs that tell it.
func own(name string, n int) string {
	s := fmt.Sprint(n)
	if strings.Contains("!#$%&*+./:<=>?@^|~-", name[:1]) {
		return "@" + strings.Map(func(r rune) rune { return rune("!#$%&*+./:"[r-'0']) }, s)
	}
	return "q" + s
}

func (m *marked) expr(e api.Expr, bound []string) api.Expr {
	if e.Kind == api.EVar {
		m.found = append(m.found, stands{e.Name, slices.Contains(bound, e.Name)})
		e.Name = own(e.Name, len(m.found)-1)
	}
	inner := slices.Concat(bound, e.Params, bindNames(e.Binds))
	e.Binds = slices.Clone(e.Binds)
	for i := range e.Binds {
		e.Binds[i] = m.bind(e.Binds[i], inner)
	}
	e.Alts = slices.Clone(e.Alts)
	for i, a := range e.Alts {
		e.Alts[i].Rhs = m.bodies([]api.Pat{a.Pat}, a.Rhs, bound)
	}
	e.Args = slices.Clone(e.Args)
	for i := range e.Args {
		e.Args[i] = m.expr(e.Args[i], inner)
	}
	return e
}

func (m *marked) bind(b api.Bind, bound []string) api.Bind {
	b.Clauses = slices.Clone(b.Clauses)
	for i, c := range b.Clauses {
		b.Clauses[i].Rhs = m.bodies(c.Pats, c.Rhs, bound)
	}
	return b
}

func (m *marked) bodies(pats []api.Pat, l []api.Rhs, bound []string) []api.Rhs {
	for _, p := range pats {
		bound = slices.Concat(bound, written(show.Pat(p), api.WName))
	}
	l = slices.Clone(l)
	for i, r := range l {
		l[i].Body = m.expr(r.Body, bound)
		if len(r.Guard) > 0 {
			l[i].Guard = []api.Expr{m.expr(r.Guard[0], bound)}
		}
	}
	return l
}

// written are the tokens of some kinds in a text that is a source's, in order.
func written(text string, kinds ...int) []string {
	tokens, _ := lex.Tokens(text)
	var l []string
	for _, w := range tokens {
		if slices.Contains(kinds, w.Kind) {
			l = append(l, w.Text)
		}
	}
	return l
}

// free are the names that stand in a text of a marked one and are not bound, in the order in which they are written.
func (m *marked) free(text string) []string {
	var l []string
	for _, w := range written(text, api.WName, api.WOp) {
		for i, s := range m.found {
			if own(s.name, i) == w && !s.bound && !slices.Contains(l, s.name) {
				l = append(l, s.name)
			}
		}
	}
	return l
}

// P9.2

func TestManyExpressions(t *testing.T) {
	m := &making{chain: 4, wrong: 30}
	most, some := 0, 0
	for i := range 20000 {
		e := m.expr(i%6, []string{"x", "y", "a", "!"})
		var all marked
		text := show.Expr(all.expr(e, nil))
		if _, f := lex.Tokens(text); f.Err != api.OK {
			continue
		}
		want := all.free(text)
		sameNames(t, show.Expr(e), scope.Free(e), want)
		most = max(most, len(want))
		if len(all.found) > 2*len(want) {
			some++
		}
		if again, f := parse.Expr(show.Expr(e), nil); f.Err == api.OK {
			sameNames(t, show.Expr(e), scope.Free(again), want)
		}
		if t.Failed() {
			t.FailNow()
		}
	}
	if most < 8 || some < 1000 {
		t.Error(most, some)
	}
}

func TestManyUses(t *testing.T) {
	m := &making{chain: 5, wrong: 100}
	for range 10000 {
		for _, b := range m.program().Binds {
			var all marked
			text := show.Program(api.Program{Binds: []api.Bind{all.bind(b, nil)}})
			if _, f := lex.Tokens(text); f.Err != api.OK {
				continue
			}
			sameNames(t, b, scope.Uses(b), all.free(text))
			if t.Failed() {
				t.FailNow()
			}
		}
	}
}

func TestManyPatterns(t *testing.T) {
	m := &making{chain: 6, wrong: 10}
	for range 10000 {
		for _, p := range m.pats(3, 3, new([]string)) {
			sameNames(t, p, scope.Vars(p), written(show.Pat(p), api.WName))
		}
	}
}
