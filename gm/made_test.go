package gm_test

import (
	"fmt"
	"slices"
	"strings"
	"testing"

	"changeling/api"
	"changeling/lift"
)

// chain makes choices, always the same.
type chain uint32

func (c *chain) pick(n int) int {
	*c = *c*1664525 + 1013904223
	return int(*c>>16) % n
}

// kind is a type: what a function takes, and what it gives then: an integer (I), a truth (B), or a data type by its first constructor's fields (L, P, T).
type kind struct {
	takes []kind
	gives byte
}

func plain(gives byte) kind { return kind{gives: gives} }

// with is the kind of a function that takes one thing more.
func (k kind) with(a kind) kind {
	return kind{takes: append([]kind{a}, k.takes...), gives: k.gives}
}

func (k kind) less(n int) kind { return kind{takes: k.takes[n:], gives: k.gives} }

func (k kind) same(other kind) bool {
	return k.gives == other.gives && slices.EqualFunc(k.takes, other.takes, kind.same)
}

// after tells how many arguments lead from a kind to another one.
func (k kind) after(other kind) (int, bool) {
	n := len(k.takes) - len(other.takes)
	return n, n >= 0 && k.less(n).same(other)
}

// fieldsOf are the kinds of a constructor's fields.
func fieldsOf(con string) []kind {
	i := plain('I')
	return map[string][]kind{"C": {i, plain('L')}, "P": {plain('L'), i.with(i)}, "T": {plain('B'), plain('P'), i}}[con]
}

// consOf are the constructors of a data type.
func consOf(gives byte) []string {
	return map[byte][]string{'B': {"True", "False"}, 'L': {"N", "C"}, 'P': {"P"}, 'T': {"T"}}[gives]
}

type named struct {
	name string
	kind kind
}

// making makes programs, as texts: all of their parts have the types that are asked of them, unless it is careless.
type making struct {
	chain
	careless bool
	globs    []named
}

func (m *making) kind(depth int) kind {
	k := plain("IIIIBBLLPT"[m.pick(10)])
	for depth > 0 && m.pick(3) == 0 {
		k = k.with(m.kind(depth - 1))
	}
	return k
}

// locals are unlike names.
func (m *making) locals(n int) []string {
	var l []string
	for len(l) < n {
		if name := fmt.Sprint("#", m.pick(7)); !slices.Contains(l, name) {
			l = append(l, name)
		}
	}
	return l
}

// more are names with others around them, which they may hide.
func more(around []named, names []string, kinds []kind) []named {
	l := slices.DeleteFunc(slices.Clone(around), func(x named) bool { return slices.Contains(names, x.name) })
	for i, name := range names {
		l = append(l, named{name, kinds[i]})
	}
	return l
}

func (m *making) expr(k kind, depth int, around []named) string {
	if m.careless && m.pick(9) == 0 {
		k = m.kind(1)
	}
	if depth > 0 {
		switch m.pick(12) {
		case 0, 1:
			a := m.kind(1)
			return fmt.Sprintf("(%s %s)", m.expr(k.with(a), depth-1, around), m.expr(a, depth-1, around))
		case 2, 3:
			return m.let(k, depth, around)
		case 4, 5, 6:
			return m.choice(k, depth, around)
		case 7:
			return m.picks(k, depth, around)
		case 8:
			if m.pick(8) == 0 {
				return "fail"
			}
		}
	}
	if depth > -2 && m.pick(3) > 0 {
		if text := m.name(k, depth, around); text != "" {
			return text
		}
	}
	return m.made(k, depth, around)
}

// name is a name of the kind, or one applied to what leads there.
func (m *making) name(k kind, depth int, around []named) string {
	all := slices.Concat(around, around, m.globs)
	for range min(6, len(all)) {
		x := all[m.pick(len(all))]
		if n, ok := x.kind.after(k); ok {
			text := x.name
			for _, a := range x.kind.takes[:n] {
				text = fmt.Sprintf("(%s %s)", text, m.expr(a, depth-1, around))
			}
			return text
		}
	}
	return ""
}

// made is what is made by the kind.
func (m *making) made(k kind, depth int, around []named) string {
	switch {
	case len(k.takes) > 0:
		return m.function(k, depth, around)
	case k.gives == 'I' && (depth < 1 || m.pick(2) == 0):
		return fmt.Sprint(m.pick(4))
	case k.gives == 'I':
		return m.operator("+ - * / %", depth, around)
	case k.gives == 'B' && depth > 0 && m.pick(3) > 0:
		return m.operator("== /= < <= > >=", depth, around)
	}
	l := consOf(k.gives)
	con := l[0]
	if depth > -1 {
		con = l[m.pick(len(l))]
	}
	text := con
	for _, field := range fieldsOf(con) {
		text = fmt.Sprintf("(%s %s)", text, m.expr(field, depth-1, around))
	}
	return text
}

func (m *making) operator(among string, depth int, around []named) string {
	l := strings.Fields(among)
	return fmt.Sprintf("(prim %s %s %s)", l[m.pick(len(l))], m.expr(plain('I'), depth-1, around), m.expr(plain('I'), depth-1, around))
}

func (m *making) function(k kind, depth int, around []named) string {
	i := plain('I')
	switch {
	case m.pick(2) > 0:
	case k.same(i.with(i).with(i)):
		return string("+-*/%"[m.pick(5)])
	case k.same(plain('B').with(i).with(i)):
		return string("<>"[m.pick(2)])
	case k.same(plain('L').with(plain('L')).with(i)):
		return "C"
	case k.same(plain('L').with(plain('L'))):
		return fmt.Sprintf("(C %s)", m.expr(i, depth-1, around))
	}
	n := 1 + m.pick(min(4, len(k.takes)))
	names := m.locals(n)
	return fmt.Sprintf("(lam %s : %s)", strings.Join(names, " "), m.expr(k.less(n), depth-1, more(around, names, k.takes[:n])))
}

func (m *making) let(k kind, depth int, around []named) string {
	names := m.locals(1 + m.pick(2))
	var kinds []kind
	for range names {
		kinds = append(kinds, m.kind(1))
	}
	inner := more(around, names, kinds)
	text := "(let"
	for i, name := range names {
		within := inner
		if m.pick(3) > 0 { // mostly none needs itself, nor those behind it
			within = slices.DeleteFunc(slices.Clone(inner), func(x named) bool { return slices.Contains(names[i:], x.name) })
		}
		text += fmt.Sprintf(" (%s %s)", name, m.expr(kinds[i], depth-1, within))
	}
	return text + " " + m.expr(k, depth-1, inner) + ")"
}

func (m *making) choice(k kind, depth int, around []named) string {
	of := m.kind(0)
	var alts []string
	if of.gives == 'I' {
		for i := range m.pick(3) {
			alts = append(alts, fmt.Sprintf("(%d : %s)", 2*i+m.pick(2), m.expr(k, depth-1, around)))
		}
		alts = append(alts, fmt.Sprintf("(_ : %s)", m.expr(k, depth-1, around)))
	}
	for i, con := range consOf(of.gives) {
		fields := fieldsOf(con)
		names := m.locals(len(fields))
		body := m.expr(k, depth-1, more(around, names, fields))
		if i > 0 && m.pick(4) == 0 {
			alts = append(alts, fmt.Sprintf("(_ : %s)", m.expr(k, depth-1, around)))
		} else if i == 0 || !m.careless || m.pick(3) > 0 { // careless: not all of them may be there
			alts = append(alts, fmt.Sprintf("(%s %s : %s)", con, strings.Join(names, " "), body))
		}
	}
	return fmt.Sprintf("(case %s %s)", m.expr(of, depth-1, around), strings.Join(alts, " "))
}

func (m *making) picks(k kind, depth int, around []named) string {
	text := "(pick " + m.expr(k, depth-1, around)
	for selector := range m.pick(3) {
		text += fmt.Sprintf(" (%d : %s)", 2*selector+m.pick(2), m.expr(k, depth-1, around))
	}
	return text + ")"
}

// defs are definitions f0, f1 and so on.
func (m *making) defs(n, depth int) string {
	var globs []named
	for i := range n {
		globs = append(globs, named{fmt.Sprint("f", i), m.kind(2)})
	}
	text := ""
	for i, g := range globs {
		if m.globs = globs; m.pick(4) > 0 { // mostly none needs itself, nor those behind it
			m.globs = globs[:i]
		}
		text += fmt.Sprintf("%s = %s\n", g.name, m.expr(g.kind, depth, nil))
	}
	m.globs = globs
	return text
}

// asks are expressions that ask for the definitions that were made, with arguments, as far as there are some that may be asked for later.
func (m *making) asks() []string {
	var l []string
	for _, g := range m.globs {
		text := g.name
		for _, a := range g.kind.takes {
			arg := m.flat(a)
			if arg == "" {
				break
			}
			text = fmt.Sprintf("(%s %s)", text, arg)
		}
		l = append(l, text)
	}
	return l
}

// flat is an expression of a kind that may be asked for later, if there is one.
func (m *making) flat(k kind) string {
	i := plain('I')
	switch {
	case k.same(i):
		return fmt.Sprint(m.pick(5) - 1)
	case k.same(plain('B')):
		return fmt.Sprintf("(prim == 1 %d)", m.pick(2))
	case k.same(plain('L')):
		return fmt.Sprintf("(let (#0 (C %d #1)) (#1 (C 5 N)) #%d)", m.pick(3), m.pick(2))
	case k.same(plain('P')):
		return "(P (C 1 N) (+ 2))"
	case k.same(plain('T')):
		return fmt.Sprintf("(T False (P N (- %d)) %d)", m.pick(3), m.pick(3))
	case k.same(i.with(i)):
		return "(* 3)"
	}
	for _, g := range m.globs {
		if k.same(g.kind) {
			return g.name
		}
	}
	return ""
}

// defsOf are definitions, a line each.
func defsOf(text string) []api.Def {
	var l []api.Def
	for _, s := range supers(text) {
		l = append(l, api.Def{Name: s.Name, Body: s.Body})
	}
	return l
}

// lifted are the supercombinators of definitions.
func lifted(t *testing.T, text string) []api.Super {
	t.Helper()
	l, err := lift.Lift(defsOf(text))
	if err != api.OK {
		t.Fatal(err, text)
	}
	return l
}
