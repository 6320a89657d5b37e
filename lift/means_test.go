package lift_test

import (
	"fmt"
	"slices"
	"strings"
	"testing"

	"changeling/api"
	"changeling/lift"
	"changeling/match"
	"changeling/num"
	"changeling/parse"
)

// What core programs mean, by the words of chapter 14. What something is is asked once and kept: by name it is the same each time; and what has to be asked while it is asked comes to nothing.

// value is an integer, a constructor with its fields, or (with a call) a function.
type value struct {
	con    string
	n      int64
	fields []*later
	call   func(*later) *value
}

// later is what may be asked.
type later struct {
	ask   func() *value
	is    *value
	begun bool
}

func (l *later) now() *value {
	if l.is == nil {
		if l.begun {
			panic(over("nothing"))
		}
		l.begun = true
		l.is = l.ask()
	}
	return l.is
}

// over is the panic with which what is no value is told; stuck is what no well-typed program comes to.
type over string

// bound is a local name, in a row with those around it.
type bound struct {
	name string
	is   *later
	up   *bound
}

func (b *bound) find(name string) *later {
	for ; b != nil; b = b.up {
		if b.name == name {
			return b.is
		}
	}
	panic("no such name: " + name)
}

func put(names []string, l []*later, around *bound) *bound {
	for i, name := range names {
		around = &bound{name: name, is: l[i], up: around}
	}
	return around
}

// function takes so many arguments, one after the other.
func function(n int, body func([]*later) *value) *value {
	if n == 0 {
		return body(nil)
	}
	return &value{call: func(first *later) *value {
		return function(n-1, func(others []*later) *value { return body(append([]*later{first}, others...)) })
	}}
}

// meaning is what definitions mean for a selector, as long as there are steps left.
type meaning struct {
	globs    map[string]*later
	selector int
	steps    int
}

func means(l []api.Def, selector, steps int) *meaning {
	m := &meaning{globs: map[string]*later{}, selector: selector, steps: steps}
	for _, d := range l {
		m.globs[d.Name] = m.later(&d.Body, nil)
	}
	for op := 1; op <= 11; op++ {
		m.globs[num.Name(op)] = &later{is: function(2, func(l []*later) *value { return m.operator(op, l) })}
	}
	return m
}

// asDefs are supercombinators, taken as definitions.
func asDefs(l []api.Super) []api.Def {
	var all []api.Def
	for _, s := range l {
		body := s.Body
		if len(s.Params) > 0 {
			body = lam(body, s.Params...)
		}
		all = append(all, def(s.Name, body))
	}
	return all
}

func (m *meaning) operator(op int, l []*later) *value {
	a, b := l[0].now(), (*value)(nil)
	if a.call != nil || a.con != "" {
		panic(over("stuck"))
	}
	if b = l[1].now(); b.call != nil || b.con != "" {
		panic(over("stuck"))
	}
	n, err := num.Do(op, a.n, b.n)
	switch {
	case err != api.OK:
		panic(over("zero"))
	case num.Rel(op):
		return &value{con: []string{"False", "True"}[n]}
	}
	return &value{n: n}
}

func (m *meaning) later(c *api.Core, around *bound) *later {
	return &later{ask: func() *value { return m.core(c, around) }}
}

func (m *meaning) one() {
	if m.steps--; m.steps < 0 {
		panic(over("nothing"))
	}
}

func (m *meaning) core(c *api.Core, around *bound) *value {
	m.one()
	switch c.Kind {
	case api.CVar:
		return around.find(c.Name).now()
	case api.CGlob:
		return m.globs[c.Name].now()
	case api.CInt:
		return &value{n: c.N}
	case api.CCon:
		return function(c.Arity, func(l []*later) *value { return &value{con: c.Name, fields: l} })
	case api.CApp:
		f := m.core(&c.Args[0], around)
		if f.call == nil {
			panic(over("stuck"))
		}
		return f.call(m.later(&c.Args[1], around))
	case api.CPrim:
		return m.operator(int(c.N), []*later{m.later(&c.Args[0], around), m.later(&c.Args[1], around)})
	case api.CLam:
		return function(len(c.Params), func(l []*later) *value { return m.core(&c.Args[0], put(c.Params, l, around)) })
	case api.CLet:
		inner := around
		for _, b := range c.Binds {
			inner = &bound{name: b.Name, is: &later{}, up: inner}
		}
		for i := range c.Binds {
			inner.find(c.Binds[i].Name).ask = func() *value { return m.core(&c.Binds[i].Body, inner) }
		}
		return m.core(&c.Args[0], inner)
	case api.CCase:
		return m.choice(m.core(&c.Args[0], around), c.Alts, around)
	case api.CPick:
		for i := range c.Picks {
			if c.Picks[i].Select == m.selector {
				return m.core(&c.Picks[i].Body, around)
			}
		}
		return m.core(&c.Args[0], around)
	case api.CFail:
		panic(over("match"))
	}
	panic("no such core expression")
}

func (m *meaning) choice(v *value, l []api.CAlt, around *bound) *value {
	for i := range l {
		a := &l[i]
		switch {
		case a.Kind == api.AAny, a.Kind == api.AInt && v.call == nil && v.con == "" && v.n == a.N:
			return m.core(&a.Body, around)
		case a.Kind == api.ACon && v.con == a.Name && len(v.fields) == len(a.Params):
			return m.core(&a.Body, put(a.Params, v.fields, around))
		}
	}
	panic(over("stuck"))
}

// outcome is what asking for a whole value comes to, as a text.
func (m *meaning) outcome(ask func() *value) (text string) {
	defer func() {
		if x := recover(); x != nil {
			why, ok := x.(over)
			if !ok {
				panic(x)
			}
			text = string(why)
		}
	}()
	var b strings.Builder
	m.whole(ask(), &b)
	return b.String()
}

func (m *meaning) whole(v *value, b *strings.Builder) {
	m.one()
	switch {
	case v.call != nil:
		b.WriteString("->")
	case v.con == "":
		fmt.Fprint(b, v.n)
	default:
		b.WriteString("(" + v.con)
		for _, f := range v.fields {
			b.WriteString(" ")
			m.whole(f.now(), b)
		}
		b.WriteString(")")
	}
}

// told is what a definition comes to with some arguments, each an integer, or ? for what comes to nothing; and which of them it asks, in which order.
func (m *meaning) told(name string, args ...string) string {
	var asked []int
	text := m.outcome(func() *value {
		v := m.globs[name].now()
		for i, arg := range args {
			if v.call == nil {
				panic(over("stuck"))
			}
			v = v.call(&later{ask: func() *value {
				asked = append(asked, i)
				if arg == "?" {
					panic(over("nothing"))
				}
				n := int64(0)
				fmt.Sscan(arg, &n)
				return &value{n: n}
			}})
		}
		return v
	})
	return fmt.Sprint(text, asked)
}

// lifted are definitions' supercombinators, once it is known that they are as the chapter says.
func lifted(t *testing.T, l []api.Def) []api.Super {
	t.Helper()
	supers, err := lift.Lift(l)
	if err != api.OK || !lift.Right(l) || !lift.Flat(supers) {
		t.Fatal(err, defTexts(l), "\n", texts(supers))
	}
	k := 0
	for _, d := range l {
		var params []string
		if d.Body.Kind == api.CLam {
			params = d.Body.Params
		}
		if supers[k].Name != d.Name || !slices.Equal(supers[k].Params, params) {
			t.Fatal(defTexts(l), "\n", texts(supers))
		}
		k++
		for i := 1; k < len(supers) && strings.HasPrefix(supers[k].Name, d.Name+"#"); i++ {
			if supers[k].Name != fmt.Sprint(d.Name, "#", i) {
				t.Fatal(defTexts(l), "\n", texts(supers))
			}
			k++
		}
	}
	if k != len(supers) {
		t.Fatal(defTexts(l), "\n", texts(supers))
	}
	return supers
}

func defTexts(l []api.Def) string {
	var all []string
	for _, d := range l {
		all = append(all, d.Name+" = "+text(d.Body))
	}
	return strings.Join(all, "\n")
}

// alike tells what definitions come to with some rows of arguments each, for some selectors: it is the same as that of their supercombinators.
func alike(t *testing.T, l []api.Def, selectors []int, rows [][][]string) map[string]int {
	t.Helper()
	supers := asDefs(lifted(t, l))
	all := map[string]int{}
	for _, s := range selectors {
		for i, d := range l {
			for _, args := range rows[i] {
				const steps = 300
				want := means(l, s, steps).told(d.Name, args...)
				// What is asked of a supercombinator is asked in no fewer steps.
				most := 100 * steps
				if strings.HasPrefix(want, "nothing[") {
					most = steps
				}
				if got := means(supers, s, most).told(d.Name, args...); got != want {
					t.Fatalf("%s of %q for %d: %s, not %s, of\n%s\n\n%s", d.Name, args, s, got, want, defTexts(l), defTexts(supers))
				}
				all[want]++
			}
		}
	}
	return all
}

// P15.2

func TestMeanings(t *testing.T) {
	x, y, z, one := v("#0"), v("#1"), v("#2"), integer(1)
	cons := con("C", 1, 2)
	for _, c := range []struct {
		d        api.Core
		selector int
		args     []string
		want     string
	}{
		{lam(lam(prim("-", x, y), "#1"), "#0"), 0, []string{"9", "2"}, "7[0 1]"},
		{lam(lam(prim("-", y, x), "#1"), "#0"), 0, []string{"9", "2"}, "-7[1 0]"},
		{lam(lam(x, "#1"), "#0"), 0, []string{"9"}, "->[]"},
		{lam(lam(x, "#1"), "#0"), 0, []string{"9", "?"}, "9[0]"},
		{lam(lam(lam(app(con("T", 0, 3), x, y, z), "#2"), "#1"), "#0"), 0, []string{"1", "2", "3"}, "(T 1 2 3)[0 1 2]"},
		{app(fail(), one), 0, nil, "match[]"},
		{app(glob("k"), one, fail()), 0, nil, "1[]"},
		{app(glob("k"), fail(), one), 0, nil, "match[]"},
		{app(cons, one, fail()), 0, nil, "match[]"},
		{app(glob("+"), prim("/", one, integer(0)), fail()), 0, nil, "zero[]"},
		{app(glob("+"), fail(), prim("/", one, integer(0))), 0, nil, "match[]"},
		{lam(app(glob("k"), choice(x, ofInt(1, y), ofAny(fail())), fail()), "#0", "#1"), 0, []string{"1", "5"}, "5[0 1]"},
		{lam(app(glob("k"), choice(x, ofInt(1, y), ofAny(fail())), fail()), "#0", "#1"), 0, []string{"2", "5"}, "match[0]"},
		{lam(app(glob("k"), pick(x, on(3, y), on(4, fail())), fail()), "#0", "#1"), 0, []string{"1", "5"}, "1[0]"},
		{lam(app(glob("k"), pick(x, on(3, y), on(4, fail())), fail()), "#0", "#1"), 3, []string{"1", "5"}, "5[1]"},
		{lam(app(glob("k"), pick(x, on(3, y), on(4, fail())), fail()), "#0", "#1"), 4, []string{"1", "5"}, "match[]"},
		{lam(app(pick(lam(x, "#2"), on(3, lam(z, "#2")), on(4, glob("k"))), y), "#0", "#1"), 0, []string{"1", "5"}, "1[0]"},
		{lam(app(pick(lam(x, "#2"), on(3, lam(z, "#2")), on(4, glob("k"))), y), "#0", "#1"), 3, []string{"1", "5"}, "5[1]"},
		{lam(app(pick(lam(x, "#2"), on(3, lam(z, "#2")), on(4, glob("k"))), y), "#0", "#1"), 4, []string{"1", "5"}, "->[]"},
		{lam(let(app(x, y), bind("#0", lam(choice(z, ofInt(0, one), ofAny(prim("*", z, app(x, prim("-", z, one))))), "#2"))), "#1"), 0, []string{"5"}, "120[0]"},
		{lam(let(app(v("#3"), x), bind("#3", lam(choice(z, ofInt(0, con("Even", 0, 0)), ofAny(app(v("#4"), prim("-", z, one)))), "#2")), bind("#4", lam(choice(z, ofInt(0, con("Odd", 1, 0)), ofAny(app(v("#3"), prim("-", z, one)))), "#2"))), "#0"), 0, []string{"7"}, "(Odd)[0]"},
		{let(app(glob("k"), one, x), bind("#0", x)), 0, nil, "1[]"},
		{let(app(glob("k"), x, one), bind("#0", x)), 0, nil, "nothing[]"},
		{let(app(cons, app(glob("k"), one, x), con("N", 0, 0)), bind("#0", fail())), 0, nil, "(C 1 (N))[]"},
		{let(choice(x, ofCon(app(glob("k"), choice(y, ofCon(prim("+", x, v("#3")), "C", 1, "#3", "#0"), ofAny(fail())), fail()), "C", 1, "#0", "#1")), bind("#0", app(cons, integer(4), x))), 0, nil, "stuck[]"},
		{let(choice(x, ofCon(app(glob("k"), choice(y, ofCon(prim("+", x, v("#3")), "C", 1, "#3", "#2"), ofAny(fail())), fail()), "C", 1, "#0", "#1")), bind("#0", app(cons, integer(4), x))), 0, nil, "8[]"},
	} {
		l := []api.Def{def("f", c.d), def("k", lam(x, "#0", "#1"))}
		same(t, text(c.d), means(l, c.selector, 1000).told("f", c.args...), c.want)
		same(t, text(c.d), means(asDefs(lifted(t, l)), c.selector, 1000).told("f", c.args...), c.want)
	}
}

// Programs as they are compiled, with some parts picked.
func TestPrograms(t *testing.T) {
	const src = `data L = N | C Int L
len N = 0
len (C _ l) = 1 + len l
map f N = N
map f (C x l) = C (f x) (map f l)
fold f z l = case l of { N -> z; C x m -> f x (fold f z m) }
upto a b | a > b = N | True = C a (upto (a + 1) b)
take 0 _ = N
take n (C x l) = C x (take (n - 1) l)
take _ N = N
sum = fold (+) 0
ones = C 1 ones
sieve (C x l) = C x (sieve (filter (\y -> y % x /= 0) l))
filter p l = let { go N = N; go (C x m) | p x = C x (go m) | True = go m } in go l
even n = let { e 0 = True; e m = o (m - 1); o 0 = False; o m = e (m - 1) } in e n
from n = C n (from (n + 1))
comp f g x = f (g x)
a n = sum (map (\x -> x * n) (upto 1 4))
b = take 5 (sieve (from 2))
c x y = comp (take x) (map (comp (+ 1) (* y))) ones
d n = map (if even n then (\x -> x / n) else comp len (upto 1)) (upto 1 3)
e x = let { y = case x of { 0 -> 1 / x; 1 -> len (C y N) } } in if x < 2 then y else y + 1
`
	p, f := parse.Program(strings.NewReplacer("(+ 1)", "(\\x -> x + 1)", "(* y)", "(\\x -> x * y)").Replace(src))
	if f.Err != api.OK {
		t.Fatal(f)
	}
	l, f := match.Compile(p)
	if f.Err != api.OK {
		t.Fatal(f)
	}
	// Each integer is one more for the selector 1, and fails for 2; those of patterns stay.
	var mutated func(c api.Core) api.Core
	mutated = func(c api.Core) api.Core {
		c = turned(c, mutated)
		if c.Kind == api.CInt {
			return pick(c, on(1, integer(c.N+1)), on(2, fail()))
		}
		return c
	}
	var picked []api.Def
	for _, d := range l {
		picked = append(picked, def(d.Name, mutated(d.Body)))
	}
	for _, c := range []struct {
		name     string
		selector int
		args     []string
		want     string
	}{
		{"a", 0, []string{"3"}, "30[0]"}, {"a", 0, []string{"?"}, "nothing[0]"}, {"a", 1, []string{"3"}, "19[0]"}, {"a", 2, []string{"3"}, "match[]"},
		{"b", 0, nil, "(C 2 (C 3 (C 5 (C 7 (C 11 (N))))))[]"}, {"b", 2, nil, "match[]"},
		{"c", 0, []string{"2", "5"}, "(C 6 (C 6 (N)))[0 1]"}, {"c", 0, []string{"0", "?"}, "(N)[0]"}, {"c", 0, []string{"1", "?"}, "nothing[0 1]"}, {"c", 1, []string{"2", "5"}, "(C 12 (N))[0 1]"},
		{"d", 0, []string{"2"}, "(C 0 (C 1 (C 1 (N))))[0]"}, {"d", 0, []string{"3"}, "(C 1 (C 2 (C 3 (N))))[0]"},
		{"e", 0, []string{"0"}, "zero[0]"}, {"e", 0, []string{"1"}, "1[0]"}, {"e", 0, []string{"2"}, "match[0]"}, {"e", 1, []string{"0"}, "zero[0]"}, {"e", 9, []string{"1"}, "1[0]"},
		{"sum", 0, nil, "->[]"}, {"sum", 2, nil, "->[]"}, {"even", 0, []string{"6"}, "(True)[0]"}, {"ones", 2, nil, "match[]"}, {"ones", 0, nil, "nothing[]"},
	} {
		same(t, c, means(picked, c.selector, 20000).told(c.name, c.args...), c.want)
		same(t, c, means(asDefs(lifted(t, picked)), c.selector, 40000).told(c.name, c.args...), c.want)
		if c.selector == 0 {
			same(t, c, means(asDefs(lifted(t, l)), 0, 40000).told(c.name, c.args...), c.want)
		}
	}
}

// chain makes choices, always the same.
type chain uint32

func (c *chain) pick(n int) int {
	*c = *c*1664525 + 1013904223
	return int(*c>>16) % n
}

// kind is a type: I, B, L, or of a function what it takes and what it gives.
type kind struct {
	name string
	args []kind
}

func (k kind) String() string {
	if k.name == "" {
		return "(" + k.args[0].String() + k.args[1].String() + ")"
	}
	return k.name
}

func to(a, b kind) kind { return kind{args: []kind{a, b}} }

var ints, truths, lists = kind{name: "I"}, kind{name: "B"}, kind{name: "L"}

type there struct {
	name string
	kind kind
}

// making makes definitions all of whose parts have the types that are asked of them.
type making struct {
	chain
	globs []there
}

func (m *making) kind(depth int) kind {
	if depth > 0 && m.pick(3) == 0 {
		return to(m.kind(depth-1), m.kind(depth-1))
	}
	return []kind{ints, ints, ints, truths, lists}[m.pick(5)]
}

// names are some local names, no two the same, of few: so that they often hide others.
func (m *making) names(n int) []string {
	var l []string
	for len(l) < n {
		if name := fmt.Sprint("#", m.pick(6)); !slices.Contains(l, name) {
			l = append(l, name)
		}
	}
	return l
}

// more are names in scope, with others further in.
func more(around []there, names []string, kinds []kind) []there {
	around = slices.DeleteFunc(slices.Clone(around), func(x there) bool { return slices.Contains(names, x.name) })
	for i, name := range names {
		around = append(around, there{name, kinds[i]})
	}
	return around
}

// cast is what something has to be applied to, to have a type.
func cast(have, want kind) ([]kind, bool) {
	var args []kind
	for have.String() != want.String() {
		if have.name != "" {
			return nil, false
		}
		args = append(args, have.args[0])
		have = have.args[1]
	}
	return args, true
}

// named is a name of the type, or one applied to what it needs to have it.
func (m *making) named(k kind, depth int, around []there) (api.Core, bool) {
	all := append(slices.Clone(around), m.globs...)
	if len(all) == 0 {
		return api.Core{}, false
	}
	for range 6 {
		i := m.pick(len(all))
		if len(around) > 0 && m.pick(3) > 0 {
			i = m.pick(len(around))
		}
		x := all[i]
		c := v(x.name)
		if i >= len(around) {
			c = glob(x.name)
		}
		if args, ok := cast(x.kind, k); ok {
			for _, a := range args {
				c = app(c, m.core(a, depth-1, around))
			}
			return c, true
		}
	}
	return api.Core{}, false
}

func (m *making) core(k kind, depth int, around []there) api.Core {
	if depth > 0 {
		switch m.pick(11) {
		case 0, 1:
			a := m.kind(1)
			return app(m.core(to(a, k), depth-1, around), m.core(a, depth-1, around))
		case 2, 3:
			return m.let(k, depth, around)
		case 4, 5:
			return m.choice(k, depth, around)
		case 6:
			c := pick(m.core(k, depth-1, around))
			for s := range m.pick(3) {
				c.Picks = append(c.Picks, on(s+m.pick(2)+s, m.core(k, depth-1, around)))
			}
			return c
		case 7:
			if m.pick(8) == 0 {
				return fail()
			}
		}
	}
	if depth > -2 && m.pick(3) > 0 {
		if c, ok := m.named(k, depth, around); ok {
			return c
		}
	}
	return m.made(k, depth, around)
}

// made is what is made by the kind of the type.
func (m *making) made(k kind, depth int, around []there) api.Core {
	switch {
	case k.name == "":
		return m.function(k, depth, around)
	case depth > 0 && k.name == "I" && m.pick(2) == 0:
		return prim([]string{"+", "-", "*", "/", "%"}[m.pick(5)], m.core(ints, depth-1, around), m.core(ints, depth-1, around))
	case k.name == "I":
		return integer(int64(m.pick(4)))
	case depth > 0 && k.name == "B":
		return prim([]string{"==", "<", ">="}[m.pick(3)], m.core(ints, depth-1, around), m.core(ints, depth-1, around))
	case k.name == "B":
		return con([]string{"False", "True"}[m.pick(2)], 0, 0)
	case depth > 0 && m.pick(3) > 0:
		return app(con("C", 1, 2), m.core(ints, depth-1, around), m.core(lists, depth-1, around))
	}
	return con("N", 0, 0)
}

func (m *making) function(k kind, depth int, around []there) api.Core {
	switch {
	case k.String() == "(I(II))" && m.pick(2) == 0:
		return glob([]string{"+", "-", "*", "/"}[m.pick(4)])
	case k.String() == "(I(LL))" && m.pick(2) == 0:
		return con("C", 1, 2)
	case k.String() == "(LL)" && m.pick(2) == 0:
		return app(con("C", 1, 2), m.core(ints, depth-1, around))
	}
	var kinds []kind
	for k.name == "" && (len(kinds) == 0 || m.pick(2) == 0) {
		kinds = append(kinds, k.args[0])
		k = k.args[1]
	}
	names := m.names(len(kinds))
	return lam(m.core(k, depth-1, more(around, names, kinds)), names...)
}

func (m *making) let(k kind, depth int, around []there) api.Core {
	names := m.names(1 + m.pick(2))
	var kinds []kind
	for range names {
		kinds = append(kinds, m.kind(1))
	}
	inner := more(around, names, kinds)
	c := let(m.core(k, depth-1, inner))
	for i, name := range names {
		within := inner
		if m.pick(3) > 0 { // mostly none needs itself, nor those behind it
			within = more(around, names, kinds)
			within = slices.DeleteFunc(within, func(x there) bool { return slices.Contains(names[i:], x.name) })
		}
		c.Binds = append(c.Binds, bind(name, m.core(kinds[i], depth-1, within)))
	}
	return c
}

func (m *making) choice(k kind, depth int, around []there) api.Core {
	switch m.pick(3) {
	case 0:
		c := choice(m.core(ints, depth-1, around))
		for i := range m.pick(3) {
			c.Alts = append(c.Alts, ofInt(int64(2*i+m.pick(2)), m.core(k, depth-1, around)))
		}
		c.Alts = append(c.Alts, ofAny(m.core(k, depth-1, around)))
		return c
	case 1:
		return choice(m.core(truths, depth-1, around), ofCon(m.core(k, depth-1, around), "True", 1), ofCon(m.core(k, depth-1, around), "False", 0))
	}
	names := m.names(2)
	inner := more(around, names, []kind{ints, lists})
	c := choice(m.core(lists, depth-1, around), ofCon(m.core(k, depth-1, inner), "C", 1, names...), ofCon(m.core(k, depth-1, around), "N", 0))
	if m.pick(4) == 0 {
		c.Alts[1] = ofAny(c.Alts[1].Body)
	}
	return c
}

func (m *making) defs(n, depth int) []api.Def {
	m.globs = nil
	for i := range n {
		k := m.kind(2)
		if m.pick(2) == 0 {
			k = to(ints, k)
		}
		m.globs = append(m.globs, there{fmt.Sprint("f", i), k})
	}
	var l []api.Def
	globs := m.globs
	for i, g := range globs {
		if m.globs = globs; m.pick(4) > 0 { // mostly none needs itself, nor those behind it
			m.globs = globs[:i]
		}
		l = append(l, def(g.name, m.core(g.kind, depth, nil)))
	}
	m.globs = globs
	return l
}

// rows are rows of arguments for each definition that was made, of all integers that it takes, and of fewer.
func (m *making) rows() [][][]string {
	var all [][][]string
	for _, g := range m.globs {
		var l [][]string
		for _, row := range [][]string{{"1", "0", "2"}, {"0", "2", "?"}, {"2", "?", "1"}, {"?", "3", "3"}} {
			k, n := g.kind, 0
			for n < len(row) && k.name == "" && k.args[0].name == "I" {
				k = k.args[1]
				n++
			}
			l = append(l, row[:n])
		}
		if len(l[0]) == 0 {
			l = l[:1]
		}
		all = append(all, l)
	}
	return all
}

func TestMadeMeanings(t *testing.T) {
	t.Parallel()
	m := &making{chain: 1}
	all := map[string]int{}
	made := 0
	for i := range 3000 {
		l := m.defs(1+i%4, 2+i%5)
		for what, n := range alike(t, l, []int{0, 1, 3}, m.rows()) {
			all[what] += n
		}
		supers := lifted(t, l)
		made += len(supers) - len(l)
		again(t, l, supers)
	}
	count := map[string]int{}
	for what, n := range all {
		what, _, _ = strings.Cut(what, "[")
		if strings.HasPrefix(what, "(") {
			what = "constructor"
		}
		count[what] += n
	}
	if len(all) < 150 || made < 50000 || count["constructor"] < 4000 || count["1"] < 4000 || count["->"] < 4000 || count["match"] < 2000 || count["zero"] < 500 || count["nothing"] < 4000 || count["stuck"] > 0 {
		t.Error(len(all), made, count["constructor"], count["1"], count["->"], count["match"], count["zero"], count["nothing"], count["stuck"])
	}
}

// again lifts what is flat, under other names: it is as it was; and each definition beside others that are nothing much.
func again(t *testing.T, l []api.Def, supers []api.Super) {
	t.Helper()
	other := func(name string) string { return strings.ReplaceAll(name, "#", "_") }
	var rename func(c api.Core) api.Core
	rename = func(c api.Core) api.Core {
		if c.Kind == api.CGlob {
			c.Name = other(c.Name)
		}
		return turned(c, rename)
	}
	var renamed []api.Super
	for _, s := range supers {
		renamed = append(renamed, super(other(s.Name), rename(s.Body), s.Params...))
	}
	twice, err := lift.Lift(asDefs(renamed))
	if err != api.OK || texts(twice) != texts(renamed) {
		t.Fatal(err, texts(twice), texts(renamed))
	}
	for i, d := range l {
		alone := slices.Clone(l)
		for k := range alone {
			if k != i {
				alone[k].Body = integer(0)
			}
		}
		slices.Reverse(alone)
		one := func(l []api.Super) string {
			return texts(slices.DeleteFunc(slices.Clone(l), func(s api.Super) bool { return s.Name != d.Name && !strings.HasPrefix(s.Name, d.Name+"#") }))
		}
		if got, want := one(lifted(t, alone)), one(supers); got != want {
			t.Fatal(got, want)
		}
	}
}

// turned is an expression with each of its parts turned into another one.
func turned(c api.Core, turn func(api.Core) api.Core) api.Core {
	c.Args, c.Alts, c.Binds, c.Picks = slices.Clone(c.Args), slices.Clone(c.Alts), slices.Clone(c.Binds), slices.Clone(c.Picks)
	for i, a := range c.Args {
		c.Args[i] = turn(a)
	}
	for i, a := range c.Alts {
		c.Alts[i].Body = turn(a.Body)
	}
	for i, b := range c.Binds {
		c.Binds[i].Body = turn(b.Body)
	}
	for i, p := range c.Picks {
		c.Picks[i].Body = turn(p.Body)
	}
	return c
}
