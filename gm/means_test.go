package gm_test

import (
	"fmt"
	"reflect"
	"slices"
	"strings"
	"testing"

	"changeling/api"
	"changeling/code"
	"changeling/gm"
	"changeling/num"
)

// What definitions mean, by the words of chapter 14: by name; or, with sharing, what something is is asked once and kept, and what is asked while it is asked comes to nothing.

// value is an integer, a constructor with its fields, or a function that has some of its arguments.
type value struct {
	n      int64
	con    string
	fields []*thunk
	takes  int // how many arguments more
	call   func([]*thunk) *value
}

// thunk is what may be asked.
type thunk struct {
	c     *api.Core
	names *scope
	is    *value
	begun bool
}

// scope are local names, the innermost first.
type scope struct {
	name string
	is   *thunk
	up   *scope
}

// over is the panic with which what is no value is told.
type over string

type meaning struct {
	globs    map[string]*thunk
	selector int
	shares   bool
	steps    int
	most     int
}

func means(l []api.Def, selector int, shares bool, most int) *meaning {
	m := &meaning{globs: map[string]*thunk{}, selector: selector, shares: shares, most: most}
	for i := range l {
		m.globs[l[i].Name] = &thunk{c: &l[i].Body}
	}
	return m
}

func (m *meaning) count() {
	if m.steps++; m.steps > m.most {
		panic(over("nothing"))
	}
}

func (m *meaning) ask(x *thunk) *value {
	switch {
	case x.is != nil:
		m.count()
		return x.is
	case !m.shares:
		return m.core(x.c, x.names)
	case x.begun:
		panic(over("nothing"))
	}
	x.begun = true
	x.is = m.core(x.c, x.names)
	return x.is
}

func (m *meaning) core(c *api.Core, names *scope) *value {
	m.count()
	later := func(c *api.Core) *thunk { return &thunk{c: c, names: names} }
	switch c.Kind {
	case api.CVar:
		for names.name != c.Name {
			names = names.up
		}
		return m.ask(names.is)
	case api.CGlob:
		if op := num.Op(c.Name); op > 0 {
			return &value{takes: 2, call: func(l []*thunk) *value { return m.operator(op, l[0], l[1]) }}
		}
		return m.ask(m.globs[c.Name])
	case api.CInt:
		return &value{n: c.N}
	case api.CCon:
		made := func(l []*thunk) *value { return &value{con: c.Name, fields: l} }
		if c.Arity == 0 {
			return made(nil)
		}
		return &value{takes: c.Arity, call: made}
	case api.CApp:
		m.count()
		return m.apply(m.core(&c.Args[0], names), later(&c.Args[1]))
	case api.CPrim:
		return m.operator(int(c.N), later(&c.Args[0]), later(&c.Args[1]))
	case api.CLam:
		return &value{takes: len(c.Params), call: func(l []*thunk) *value { return m.core(&c.Args[0], names.with(c.Params, l)) }}
	case api.CLet:
		l := make([]*thunk, len(c.Binds))
		inner := names
		for i := range c.Binds {
			l[i] = &thunk{c: &c.Binds[i].Body}
			inner = &scope{name: c.Binds[i].Name, is: l[i], up: inner}
		}
		for _, x := range l {
			x.names = inner
		}
		return m.core(&c.Args[0], inner)
	case api.CCase:
		return m.choose(m.core(&c.Args[0], names), c.Alts, names)
	case api.CPick:
		if i := slices.IndexFunc(c.Picks, func(p api.Choice) bool { return p.Select == m.selector }); i >= 0 {
			return m.core(&c.Picks[i].Body, names)
		}
		return m.core(&c.Args[0], names)
	}
	panic(over("match"))
}

func (s *scope) with(names []string, l []*thunk) *scope {
	for i, name := range names {
		s = &scope{name: name, is: l[i], up: s}
	}
	return s
}

func (m *meaning) apply(f *value, a *thunk) *value {
	if f.call == nil {
		panic("what is no function is applied")
	}
	if f.takes == 1 {
		return f.call([]*thunk{a})
	}
	return &value{takes: f.takes - 1, call: func(l []*thunk) *value { return f.call(append([]*thunk{a}, l...)) }}
}

func (m *meaning) operator(op int, a, b *thunk) *value {
	left := m.ask(a)
	n, err := num.Do(op, left.n, m.ask(b).n)
	if err != api.OK {
		panic(over("zero"))
	}
	if num.Rel(op) {
		return &value{con: []string{"False", "True"}[n]}
	}
	return &value{n: n}
}

func (m *meaning) choose(v *value, l []api.CAlt, names *scope) *value {
	for i := range l {
		switch a := &l[i]; {
		case a.Kind == api.AAny, a.Kind == api.AInt && a.N == v.n:
			return m.core(&a.Body, names)
		case a.Kind == api.ACon && a.Name == v.con:
			return m.core(&a.Body, names.with(a.Params, v.fields))
		}
	}
	panic("no such alternative")
}

// outcome is what an expression's whole value comes to, and in how many steps.
func (m *meaning) outcome(e api.Core) (text string, steps int) {
	defer func() {
		if x := recover(); x != nil {
			why, ok := x.(over)
			if !ok {
				panic(x)
			}
			text, steps = string(why), m.steps
		}
	}()
	var b strings.Builder
	m.whole(m.core(&e, nil), &b)
	return b.String(), m.steps
}

func (m *meaning) whole(v *value, b *strings.Builder) {
	switch {
	case v.call != nil:
		b.WriteString("->")
	case v.con == "":
		fmt.Fprint(b, v.n)
	case len(v.fields) == 0:
		b.WriteString(v.con)
	default:
		b.WriteString("(" + v.con)
		for _, f := range v.fields {
			b.WriteString(" ")
			m.whole(m.ask(f), b)
		}
		b.WriteString(")")
	}
}

// enough is the budget that is enough for what comes to something by name in k steps.
func enough(k, instructions int) api.Budget {
	n := 64 * (k + 8) * (k + 8 + instructions)
	return api.Budget{Fuel: n, Heap: min(n, api.MaxCells), Stack: min(n, api.MaxStack)}
}

// made is a program that was made.
type made struct {
	text         string
	defs         []api.Def
	loaded       *gm.Program
	instructions int
}

func newMade(t *testing.T, text string) *made {
	t.Helper()
	l := lifted(t, text)
	codes, err := code.Compile(l, knownCons())
	if err != api.OK {
		t.Fatal(err, text)
	}
	p := &made{text: text, defs: defsOf(text), loaded: loadedOf(t, l, knownCons())}
	for _, c := range codes {
		p.instructions += len(c.Ops)
	}
	return p
}

// P18.2, P18.3, P18.4, P18.5: of well-typed definitions that were lifted.
func TestMeanings(t *testing.T) {
	t.Parallel()
	m := &making{chain: 1}
	all := map[string]int{}
	for i := range 1200 {
		p := newMade(t, m.defs(1+i%4, 2+i%5))
		for _, e := range m.asks() {
			for _, selector := range []int{0, 1, 2} {
				all[p.meant(t, e, selector)]++
			}
		}
	}
	for what, least := range map[string]int{"value": 4500, "match": 450, "zero": 150, "loop": 1200, "fuel": 100} {
		if all[what] < least {
			t.Error(what, all)
		}
	}
}

// meant tells that an expression comes to what it means, and what kind of outcome that is.
func (p *made) meant(t *testing.T, e string, selector int) string {
	t.Helper()
	const few, many = 150, 400
	want, k := means(p.defs, selector, false, few).outcome(expr(e))
	// Less than is said to be enough, by the instructions of what begins.
	b := enough(k, p.instructions)
	if want == "nothing" {
		if want, k = means(p.defs, selector, true, many).outcome(expr(e)); want == "nothing" {
			// What comes to nothing so soon, if at all, can't have come to something sooner here.
			o := ran(t, p.loaded, expr(e), selector, api.Budget{Fuel: many, Heap: 10000, Stack: 10000})
			if o.Kind != api.OutFuel && o.Kind != api.OutLoop {
				t.Fatal(outText(t, o), want, e, selector, "\n", p.text)
			}
			return kindText(o.Kind)
		}
		b = api.Budget{Fuel: 100000, Heap: 100000, Stack: 100000}
	}
	o := ran(t, p.loaded, expr(e), selector, b)
	if got, _, _ := strings.Cut(outText(t, o), " in "); got != want {
		t.Fatal(got, want, k, e, selector, "\n", p.text)
	}
	anyhow(t, p.loaded, e, selector, o)
	return kindText(o.Kind)
}

// anyhow tells that an outcome that is no budget's is told with any budget that is enough, in as many steps, however often it is collected.
func anyhow(t *testing.T, p *gm.Program, e string, selector int, o api.Out) {
	t.Helper()
	for _, b := range []api.Budget{
		{Fuel: o.Steps, Heap: 1 << 17, Stack: 1 << 17},
		{Fuel: o.Steps + 1, Heap: 1 << 20, Stack: 1 << 20, Every: 1 + o.Steps%97},
		{Fuel: api.MaxFuel, Heap: api.MaxCells, Stack: api.MaxStack, Every: 1 + o.Steps/3},
	} {
		if got := ran(t, p, expr(e), selector, b); !reflect.DeepEqual(got, o) {
			t.Fatal(got, o, b)
		}
	}
	less := api.Budget{Fuel: o.Steps - 1, Heap: 1 << 17, Stack: 1 << 17}
	if got := ran(t, p, expr(e), selector, less); !reflect.DeepEqual(got, api.Out{Kind: api.OutFuel, Steps: o.Steps - 1}) {
		t.Fatal(got, o, less)
	}
}
