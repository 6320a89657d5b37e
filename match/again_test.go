package match_test

import (
	"fmt"
	"slices"
	"strings"
	"testing"

	"changeling/api"
	"changeling/decl"
	"changeling/match"
	"changeling/parse"
	"changeling/show"
)

// asked notes what is asked, each once, in which order.
type asked struct{ names []string }

// noted is an argument of which it is noted when it is asked. Its text is an integer, or a constructor with its fields between blanks and brackets; ? stands for what comes to nothing.
func (a *asked) noted(name string, fields []string, is func(fields []*later) *value) *later {
	return &later{ask: func() *value {
		a.names = append(a.names, name)
		var l []*later
		for i, f := range fields {
			l = append(l, a.argument(fmt.Sprint(name, ".", i), f))
		}
		return is(l)
	}}
}

func (a *asked) argument(name, text string) *later {
	words := strings.Fields(text)
	return a.noted(name, words[1:], func(fields []*later) *value {
		if text == "?" {
			panic(over(api.OutZero))
		}
		if strings.ContainsAny(words[0], "0123456789") {
			n := int64(0)
			fmt.Sscan(words[0], &n)
			return integer(n)
		}
		return &value{con: words[0], fields: fields}
	})
}

// told is what a function comes to with arguments, and what it asks of these in which order.
func told(s *steps, f func() *value, args []string) string {
	var a asked
	text := s.outcome(func() *value {
		v := f()
		for i, arg := range args {
			v = v.call(a.argument(fmt.Sprint(i), arg))
		}
		return v
	})
	return fmt.Sprint(text, a.names)
}

// alike tells whether a function of a program comes to the same with rows of arguments as it is written and as it is compiled, and asks the same first, in the same order.
func alike(t *testing.T, p api.Program, l []api.Def, name string, rows [][]string) map[string]int {
	t.Helper()
	all := map[string]int{}
	for _, args := range rows {
		s, f := newSource(p, 1000), newFlat(l, 20000)
		want := told(&s.steps, func() *value { return s.tops.find(name).now() }, args)
		got := told(&f.steps, func() *value { return f.globs[name].now() }, args)
		if got != want {
			t.Fatalf("%s of %q: %s, not %s, of\n%s\n%s", name, args, got, want, show.Program(p), strings.Join(texts(l), "\n"))
		}
		all[got]++
	}
	return all
}

// product is all rows of one of each.
func product(l ...[]string) [][]string {
	all := [][]string{nil}
	for _, choices := range l {
		var longer [][]string
		for _, row := range all {
			for _, c := range choices {
				longer = append(longer, append(slices.Clone(row), c))
			}
		}
		all = longer
	}
	return all
}

// Functions of three clauses of some patterns, with and without guards: of the first two each fifth pair, with some third ones.
func TestManyClauses(t *testing.T) {
	t.Parallel()
	var clauses []string
	for _, c := range product([]string{"_", "A", "(D 0 _)", "(D y B)"}, []string{"_", "0", "x"}, []string{"_ =", "g | g =", "True ="}) {
		clauses = append(clauses, strings.Join(c, " "))
	}
	args := product([]string{"A", "B", "D 0 B", "D 1 B", "D ? A", "?"}, []string{"0", "1", "?"}, []string{"True", "False", "?"})
	outcomes := 0
	for i, a := range clauses {
		for j, b := range clauses {
			if (i+3*j)%5 > 0 {
				continue
			}
			var src strings.Builder
			for k, c := range clauses {
				fmt.Fprintf(&src, "f%d %s 1; f%d %s 2; f%d %s 3; ", k, a, k, b, k, c)
			}
			p := program(t, src.String())
			l := compiled(t, p)
			k := (i + j) % len(clauses)
			outcomes = max(outcomes, len(alike(t, p, l, fmt.Sprint("f", k), args)))
			for range 3 {
				k = (7*k + 5) % len(clauses)
				alike(t, p, l, fmt.Sprint("f", k), args)
			}
		}
	}
	if outcomes < 15 {
		t.Error(outcomes)
	}
}

// All cases of three alternatives of some patterns, of a name and of what is no leaf.
func TestAllCases(t *testing.T) {
	t.Parallel()
	var alts []string
	for _, c := range product([]string{"_", "x", "A", "B", "D 0 x", "D x (D y A)"}, []string{" ->", " | g ->"}) {
		alts = append(alts, strings.Join(c, ""))
	}
	args := product([]string{"A", "B", "D 0 ?", "D 1 B", "D ? A", "?"}, []string{"True", "False", "?"})
	for i, a := range alts {
		for _, b := range alts {
			var src strings.Builder
			for k, c := range alts {
				of := []string{"z", "id z"}[(i+k)%2]
				fmt.Fprintf(&src, "f%d z g = case %s of { %s 1; %s 2; %s 3 }; ", k, of, a, b, c)
			}
			p := program(t, src.String()+"id x = x")
			l := compiled(t, p)
			for k := range alts {
				alike(t, p, l, fmt.Sprint("f", k), args)
			}
		}
	}
}

// chain makes choices, always the same.
type chain uint32

func (c *chain) pick(n int) int {
	*c = *c*1664525 + 1013904223
	return int(*c>>16) % n
}

func con(name string) api.Type { return api.Type{Kind: api.KCon, Name: name} }

func fun(a, b api.Type) api.Type { return api.Type{Kind: api.KFun, Args: []api.Type{a, b}} }

// there is a name in scope.
type there struct {
	name string
	typ  api.Type
}

// making makes programs all of whose parts have the types that are asked of them.
type making struct {
	chain
	table *decl.Table
}

func newMaking(seed chain) *making {
	p, _ := parse.Program(strings.ReplaceAll(datas, "; data M a = O | J a", ""))
	m := &making{chain: seed}
	m.table, _ = decl.New(p.Datas)
	return m
}

func (m *making) one(l ...string) string { return l[m.pick(len(l))] }

func (m *making) typ(depth int) api.Type {
	if depth > 0 && m.pick(6) == 0 {
		return fun(m.typ(depth-1), m.typ(depth-1))
	}
	return con(m.one("Int", "Int", "Int", "Bool", "L", "L", "T", "T", "U", "W", "G"))
}

func written(t api.Type) string { return show.Type(t) }

// cast is what a name has to be applied to, to have a type.
func cast(have, want api.Type) ([]api.Type, bool) {
	var args []api.Type
	for written(have) != written(want) {
		if have.Kind != api.KFun {
			return nil, false
		}
		args = append(args, have.Args[0])
		have = have.Args[1]
	}
	return args, true
}

func apply(f api.Expr, l ...api.Expr) api.Expr {
	for _, a := range l {
		f = api.Expr{Kind: api.EApp, Args: []api.Expr{f, a}}
	}
	return f
}

func leaf(kind int, name string) api.Expr { return api.Expr{Kind: kind, Name: name} }

// named is a name in scope, applied to what it needs.
func (m *making) named(t api.Type, depth int, around []there) (api.Expr, bool) {
	for range 8 {
		if len(around) == 0 {
			break
		}
		i := len(around) - 1 - m.pick(min(len(around), 1+m.pick(len(around))))
		hidden := func(x there) bool { return x.name == around[i].name }
		args, ok := cast(around[i].typ, t)
		if !ok || len(args) > 0 && depth <= 0 || slices.ContainsFunc(around[i+1:], hidden) {
			continue
		}
		e := leaf(api.EVar, around[i].name)
		for _, a := range args {
			e = apply(e, m.expr(a, depth-1, around))
		}
		return e, true
	}
	return api.Expr{}, false
}

func (m *making) expr(t api.Type, depth int, around []there) api.Expr {
	if depth > 0 && m.pick(30) == 0 {
		return m.bad(t, depth, around)
	}
	if m.pick(5) > 1 {
		if e, ok := m.named(t, depth, around); ok {
			return e
		}
	}
	if depth > 0 {
		switch m.pick(8) {
		case 0:
			return api.Expr{Kind: api.EIf, Args: []api.Expr{m.expr(con("Bool"), depth-1, around), m.expr(t, depth-1, around), m.expr(t, depth-1, around)}}
		case 1, 2:
			return m.choice(t, depth-1, around)
		case 3:
			l, inner := m.binds([]string{"x", "y", "f", "g", "!", "h"}, 1+m.pick(2), depth-1, around)
			return api.Expr{Kind: api.ELet, Binds: l, Args: []api.Expr{m.expr(t, depth-1, inner)}}
		case 4:
			a := m.typ(1)
			return apply(m.made(fun(a, t), depth-1, around), m.expr(a, depth-1, around))
		}
	}
	return m.made(t, depth, around)
}

// bad is what may well come to no value.
func (m *making) bad(t api.Type, depth int, around []there) api.Expr {
	if t.Name == "Int" && m.pick(2) == 0 {
		return apply(leaf(api.EVar, m.one("/", "%")), m.expr(t, depth-1, around), api.Expr{Kind: api.EInt})
	}
	alt := api.Alt{Pat: api.Pat{Kind: api.PInt, N: 9}, Rhs: []api.Rhs{{Body: m.made(t, 0, around)}}}
	return api.Expr{Kind: api.ECase, Args: []api.Expr{m.expr(con("Int"), depth-1, around)}, Alts: []api.Alt{alt}}
}

// made is what is made by the kind of the type.
func (m *making) made(t api.Type, depth int, around []there) api.Expr {
	switch {
	case t.Kind == api.KFun:
		return m.function(t, depth, around)
	case t.Name == "Int" && (depth <= 0 || m.pick(2) == 0):
		return api.Expr{Kind: api.EInt, N: int64(m.pick(5) - 1)}
	case t.Name == "Int", t.Name == "Bool" && depth > 0 && m.pick(2) == 0:
		op := m.one("+", "-", "*", "/", "%")
		if t.Name == "Bool" {
			op = m.one("==", "/=", "<", "<=", ">", ">=")
		}
		return apply(leaf(api.EVar, op), m.expr(con("Int"), depth-1, around), m.expr(con("Int"), depth-1, around))
	}
	l := m.table.Cons(t.Name)
	c := l[m.pick(len(l))]
	if t.Name == "G" && depth <= 0 || t.Name != "W" && depth < 0 {
		c = l[0]
	}
	e := leaf(api.ECon, c.Name)
	for _, f := range c.Fields {
		e = apply(e, m.expr(f, depth-1, around))
	}
	return e
}

// function is a lambda, or an operator or a constructor with fewer arguments than it takes.
func (m *making) function(t api.Type, depth int, around []there) api.Expr {
	if written(t) == "Int -> Int" && m.pick(2) == 0 {
		return apply(leaf(api.EVar, m.one("+", "-", "*", "/")), m.expr(con("Int"), depth-1, around))
	}
	if written(t) == "T -> T" && m.pick(2) == 0 {
		return apply(leaf(api.ECon, "D"), m.expr(con("Int"), depth-1, around))
	}
	e := api.Expr{Kind: api.ELam}
	inner := slices.Clone(around)
	for {
		name := m.one("x", "y", "z", "f")
		if slices.Contains(e.Params, name) {
			name = "_"
		} else {
			inner = append(inner, there{name, t.Args[0]})
		}
		e.Params = append(e.Params, name)
		if t = t.Args[1]; t.Kind != api.KFun || m.pick(2) == 0 {
			break
		}
	}
	e.Args = []api.Expr{m.expr(t, depth-1, inner)}
	return e
}

func (m *making) choice(t api.Type, depth int, around []there) api.Expr {
	of := m.typ(1)
	e := api.Expr{Kind: api.ECase, Args: []api.Expr{m.expr(of, depth, around)}}
	for range 1 + m.pick(4) {
		inner := slices.Clone(around)
		p := m.pat(of, 2, &inner, len(around))
		e.Alts = append(e.Alts, api.Alt{Pat: p, Rhs: m.bodies(t, depth, inner)})
	}
	if m.pick(2) == 0 {
		e.Alts = append(e.Alts, api.Alt{Pat: api.Pat{Kind: api.PAny}, Rhs: m.bodies(t, depth, around)})
	}
	return e
}

// pat is a pattern of a type; the names that it adds differ from those from a place on.
func (m *making) pat(t api.Type, depth int, around *[]there, from int) api.Pat {
	if m.pick(3) == 0 || depth == 0 || t.Kind == api.KFun {
		name := m.one("x", "y", "z", "u", "v")
		if m.pick(3) == 0 || slices.ContainsFunc((*around)[from:], func(x there) bool { return x.name == name }) {
			return api.Pat{Kind: api.PAny}
		}
		*around = append(*around, there{name, t})
		return api.Pat{Kind: api.PVar, Name: name}
	}
	if t.Name == "Int" {
		return api.Pat{Kind: api.PInt, N: int64(m.pick(4) - 1)}
	}
	l := m.table.Cons(t.Name)
	c := l[m.pick(len(l))]
	p := api.Pat{Kind: api.PCon, Name: c.Name}
	for _, f := range c.Fields {
		p.Args = append(p.Args, m.pat(f, depth-1, around, from))
	}
	return p
}

func (m *making) bodies(t api.Type, depth int, around []there) []api.Rhs {
	if m.pick(3) > 0 {
		return []api.Rhs{{Body: m.expr(t, depth, around)}}
	}
	var l []api.Rhs
	for range 1 + m.pick(2) {
		l = append(l, api.Rhs{Guard: []api.Expr{m.expr(con("Bool"), min(depth, 2), around)}, Body: m.expr(t, depth, around)})
	}
	return l
}

// binds are bindings of some of the names, each of as many types as patterns, and what is in scope within them.
func (m *making) binds(names []string, n, depth int, around []there) ([]api.Bind, []there) {
	inner := slices.Clone(around)
	for _, name := range names[m.pick(len(names)-n+1):][:n] {
		t := m.typ(1)
		for range m.pick(4) {
			t = fun(m.typ(1), t)
		}
		inner = append(inner, there{name, t})
	}
	var l []api.Bind
	for i, x := range inner[len(around):] {
		within := inner
		if m.pick(4) > 0 { // mostly none needs itself
			within = slices.Concat(around, inner[len(around)+i+1:])
			for _, y := range inner[len(around) : len(around)+i+1] {
				within = slices.DeleteFunc(within, func(z there) bool { return z.name == y.name })
			}
		}
		l = append(l, m.bind(x, depth, within))
	}
	return l, inner
}

func (m *making) bind(x there, depth int, around []there) api.Bind {
	b := api.Bind{Name: x.name}
	args, _ := cast(x.typ, result(x.typ))
	pats, clauses := m.pick(len(args)+1), 1
	if pats > 0 {
		clauses += m.pick(4)
	}
	for range clauses {
		var c api.Clause
		inner := slices.Clone(around)
		t := x.typ
		for range pats {
			c.Pats = append(c.Pats, m.pat(t.Args[0], 2, &inner, len(around)))
			t = t.Args[1]
		}
		c.Rhs = m.bodies(t, depth, inner)
		b.Clauses = append(b.Clauses, c)
	}
	if pats > 0 && m.pick(2) == 0 {
		c := api.Clause{Pats: slices.Repeat([]api.Pat{{Kind: api.PAny}}, pats)}
		t := x.typ
		for range pats {
			t = t.Args[1]
		}
		c.Rhs = m.bodies(t, depth, around)
		b.Clauses = append(b.Clauses, c)
	}
	return b
}

func result(t api.Type) api.Type {
	for t.Kind == api.KFun {
		t = t.Args[1]
	}
	return t
}

// program is one with a binding t0, t1 and so on for each other one, which is applied there to what it needs.
func (m *making) program() api.Program {
	p, _ := parse.Program(datas)
	l, around := m.binds([]string{"f", "g", "h", "x", "k", "!", "q"}, 2+m.pick(3), 2, nil)
	p.Binds = l
	for i, x := range slices.Concat(around, around) {
		args, _ := cast(x.typ, result(x.typ))
		e := leaf(api.EVar, x.name)
		for _, a := range args {
			e = apply(e, m.expr(a, 2, around))
		}
		p.Binds = append(p.Binds, api.Bind{Name: fmt.Sprint("t", i), Clauses: []api.Clause{{Rhs: []api.Rhs{{Body: e}}}}})
	}
	return p
}

// P14.1, P14.2, P14.3

func TestManyPrograms(t *testing.T) {
	t.Parallel()
	count := map[string]int{}
	m := newMaking(1)
	largest := 0
	for range 800 {
		p := m.program()
		l := compiled(t, p)
		for k, b := range p.Binds {
			largest = max(largest, match.Size(l[k].Body))
			if !strings.HasPrefix(b.Name, "t") {
				continue
			}
			s, f := newSource(p, 500), newFlat(l, 5000)
			want := s.outcome(func() *value { return s.tops.find(b.Name).now() })
			got := f.outcome(func() *value { return f.globs[b.Name].now() })
			if want == "nothing" && got != "nothing" {
				more := newSource(p, 20000)
				want = more.outcome(func() *value { return more.tops.find(b.Name).now() })
			}
			if got != want {
				t.Fatalf("%s: %s, not %s, of\n%s\n%s", b.Name, got, want, show.Program(p), strings.Join(texts(l), "\n"))
			}
			if !strings.Contains("match zero nothing", got) {
				got = "value"
			}
			count[got]++
		}
	}
	if largest < 200 {
		t.Error(largest)
	}
	for _, what := range []string{"match", "zero", "nothing", "value"} {
		if count[what] < 70 {
			t.Error(what, count)
		}
	}
}

// P14.5, P14.6, on many programs.

func TestManyOthers(t *testing.T) {
	t.Parallel()
	m := newMaking(2)
	for range 120 {
		p := m.program()
		l := texts(compiled(t, p))
		if again, f := parse.Program(show.Program(p)); f.Err == api.OK {
			if again := texts(compiled(t, again)); !slices.Equal(again, l) {
				t.Fatal(show.Program(p))
			}
		} else if f.Err != api.ErrLong {
			t.Fatal(f, show.Program(p))
		}
		i := m.pick(len(p.Binds))
		more := p
		more.Binds = slices.Insert(slices.Clone(p.Binds), i, m.bind(there{"more", m.typ(2)}, 3, nil))
		if got := slices.Delete(texts(compiled(t, more)), i, i+1); !slices.Equal(got, l) {
			t.Fatal(show.Program(more))
		}
		other := p
		other.Binds = slices.Clone(p.Binds)
		other.Binds[i] = m.bind(there{p.Binds[i].Name, m.typ(2)}, 3, nil)
		if got, f := match.Compile(other); f.Err == api.OK {
			if got := texts(got); !slices.Equal(slices.Delete(got, i, i+1), slices.Delete(l, i, i+1)) {
				t.Fatal(show.Program(other))
			}
		}
	}
}
