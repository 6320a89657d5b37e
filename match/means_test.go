package match_test

import (
	"fmt"
	"strings"
	"testing"

	"changeling/api"
	"changeling/decl"
	"changeling/num"
)

// What programs and core programs mean, by the chapter's words done once more. What something is is asked once and kept: by name it is the same each time; and what has to be asked while it is asked comes to nothing.

// value is an integer, a constructor with its fields, or (with a call) a function.
type value struct {
	con    string
	n      int64
	fields []*later
	call   func(*later) *value
}

// later is what may be asked.
type later struct {
	ask   func() *value
	is    *value
	begun bool
}

func (l *later) now() *value {
	if l.is == nil {
		if l.begun {
			panic(over(api.OutLoop))
		}
		l.begun = true
		l.is = l.ask()
	}
	return l.is
}

func known(v *value) *later { return &later{is: v} }

func integer(n int64) *value { return &value{n: n} }

func truth(b int64) *value { return &value{con: []string{"False", "True"}[b]} }

// over is the panic with which an outcome that is no value is told.
type over int

// steps are how many may still be made.
type steps struct{ left int }

func (s *steps) one() {
	if s.left--; s.left < 0 {
		panic(over(api.OutFuel))
	}
}

// outcome is what asking for a whole value comes to, as a text.
func (s *steps) outcome(ask func() *value) (text string) {
	defer func() {
		if x := recover(); x != nil {
			kind, ok := x.(over)
			if !ok {
				panic(x)
			}
			text = map[over]string{api.OutMatch: "match", api.OutZero: "zero", api.OutFuel: "nothing", api.OutLoop: "nothing"}[kind]
		}
	}()
	var b strings.Builder
	s.whole(ask(), &b)
	return b.String()
}

func (s *steps) whole(v *value, b *strings.Builder) {
	s.one()
	switch {
	case v.call != nil:
		b.WriteString("->")
	case v.con == "":
		fmt.Fprint(b, v.n)
	default:
		b.WriteString("(" + v.con)
		for _, f := range v.fields {
			b.WriteString(" ")
			s.whole(f.now(), b)
		}
		b.WriteString(")")
	}
}

// function takes so many arguments, one after the other.
func function(n int, body func([]*later) *value) *value {
	if n == 0 {
		return body(nil)
	}
	return &value{call: func(first *later) *value {
		return function(n-1, func(others []*later) *value { return body(append([]*later{first}, others...)) })
	}}
}

func (s *steps) constructor(name string, fields int) *value {
	return function(fields, func(l []*later) *value { return &value{con: name, fields: l} })
}

// operator asks its first argument, then its second one.
func (s *steps) operator(op int, args []*later) *value {
	a := args[0].now().n
	n, err := num.Do(op, a, args[1].now().n)
	switch {
	case err != api.OK:
		panic(over(api.OutZero))
	case num.Rel(op):
		return truth(n)
	}
	return integer(n)
}

func (s *steps) primitive(op int) *value {
	return function(2, func(l []*later) *value { return s.operator(op, l) })
}

// bound is a name in scope, with those around it.
type bound struct {
	name string
	is   *later
	up   *bound
}

func (b *bound) find(name string) *later {
	for ; b != nil; b = b.up {
		if b.name == name {
			return b.is
		}
	}
	return nil
}

// source is a program that is asked as it is written.
type source struct {
	steps
	table *decl.Table
	tops  *bound
}

func newSource(p api.Program, fuel int) *source {
	s := &source{steps: steps{fuel}}
	s.table, _ = decl.New(p.Datas)
	s.tops = s.binds(p.Binds, nil)
	return s
}

func (s *source) binds(l []api.Bind, around *bound) *bound {
	for _, b := range l {
		around = &bound{name: b.Name, is: &later{}, up: around}
	}
	up := around
	for i := len(l) - 1; i >= 0; i-- {
		up.is.ask = func() *value { return s.bind(l[i], around) }
		up = up.up
	}
	return around
}

func (s *source) bind(b api.Bind, around *bound) *value {
	return function(len(b.Clauses[0].Pats), func(args []*later) *value {
		for _, c := range b.Clauses {
			if v := s.clause(c.Pats, args, c.Rhs, around); v != nil {
				return v
			}
		}
		panic(over(api.OutMatch))
	})
}

// clause is what a clause comes to, nil if it is not the one.
func (s *source) clause(pats []api.Pat, args []*later, l []api.Rhs, around *bound) *value {
	for i, p := range pats {
		if !s.matches(p, args[i], &around) {
			return nil
		}
	}
	for _, r := range l {
		if len(r.Guard) == 0 || s.expr(&r.Guard[0], around).con == "True" {
			return s.expr(&r.Body, around)
		}
	}
	return nil
}

func (s *source) matches(p api.Pat, l *later, names **bound) bool {
	switch p.Kind {
	case api.PVar:
		*names = &bound{name: p.Name, is: l, up: *names}
	case api.PInt:
		return l.now().n == p.N
	case api.PCon:
		v := l.now()
		if v.con != p.Name {
			return false
		}
		for i, a := range p.Args {
			if !s.matches(a, v.fields[i], names) {
				return false
			}
		}
	}
	return true
}

func (s *source) later(e *api.Expr, around *bound) *later {
	return &later{ask: func() *value { return s.expr(e, around) }}
}

func (s *source) expr(e *api.Expr, around *bound) *value {
	s.one()
	switch e.Kind {
	case api.EVar:
		if l := around.find(e.Name); l != nil {
			return l.now()
		}
		return s.primitive(num.Op(e.Name))
	case api.ECon:
		c, _ := s.table.Con(e.Name)
		return s.constructor(e.Name, len(c.Fields))
	case api.EInt:
		return integer(e.N)
	case api.EApp:
		return s.expr(&e.Args[0], around).call(s.later(&e.Args[1], around))
	case api.ELam:
		return function(len(e.Params), func(args []*later) *value {
			inner := around
			for i, name := range e.Params {
				inner = &bound{name: name, is: args[i], up: inner}
			}
			return s.expr(&e.Args[0], inner)
		})
	case api.ELet:
		return s.expr(&e.Args[0], s.binds(e.Binds, around))
	case api.EIf:
		if s.expr(&e.Args[0], around).con == "True" {
			return s.expr(&e.Args[1], around)
		}
		return s.expr(&e.Args[2], around)
	}
	of := s.later(&e.Args[0], around)
	for _, a := range e.Alts {
		if v := s.clause([]api.Pat{a.Pat}, []*later{of}, a.Rhs, around); v != nil {
			return v
		}
	}
	panic(over(api.OutMatch))
}

// flat is a core program that is asked.
type flat struct {
	steps
	globs map[string]*later
}

func newFlat(l []api.Def, fuel int) *flat {
	f := &flat{steps{fuel}, map[string]*later{}}
	for op := 1; op <= 11; op++ {
		f.globs[num.Name(op)] = known(f.primitive(op))
	}
	for _, d := range l {
		f.globs[d.Name] = f.later(&d.Body, nil)
	}
	return f
}

func (f *flat) later(c *api.Core, around *bound) *later {
	return &later{ask: func() *value { return f.core(c, around) }}
}

func (f *flat) core(c *api.Core, around *bound) *value {
	f.one()
	switch c.Kind {
	case api.CVar:
		return around.find(c.Name).now()
	case api.CGlob:
		return f.globs[c.Name].now()
	case api.CInt:
		return integer(c.N)
	case api.CCon:
		return f.constructor(c.Name, c.Arity)
	case api.CApp:
		return f.core(&c.Args[0], around).call(f.later(&c.Args[1], around))
	case api.CPrim:
		return f.operator(int(c.N), []*later{f.later(&c.Args[0], around), f.later(&c.Args[1], around)})
	case api.CLam:
		return function(len(c.Params), func(args []*later) *value {
			return f.core(&c.Args[0], put(c.Params, args, around))
		})
	case api.CLet:
		for _, b := range c.Binds {
			around = &bound{name: b.Name, is: &later{}, up: around}
		}
		for _, b := range c.Binds {
			around.find(b.Name).ask = func() *value { return f.core(&b.Body, around) }
		}
		return f.core(&c.Args[0], around)
	case api.CCase:
		return f.choice(f.core(&c.Args[0], around), c.Alts, around)
	case api.CFail:
		panic(over(api.OutMatch))
	}
	panic("no such core expression")
}

func put(names []string, l []*later, around *bound) *bound {
	for i, name := range names {
		around = &bound{name: name, is: l[i], up: around}
	}
	return around
}

func (f *flat) choice(v *value, l []api.CAlt, around *bound) *value {
	for _, a := range l {
		switch {
		case a.Kind == api.AAny, a.Kind == api.AInt && v.n == a.N:
			return f.core(&a.Body, around)
		case a.Kind == api.ACon && v.con == a.Name:
			return f.core(&a.Body, put(a.Params, v.fields, around))
		}
	}
	panic("no alternative")
}

// meant is what a program's binding comes to, as it is written and as it is compiled.
func meant(t *testing.T, p api.Program, name string, fuel int) (string, string) {
	t.Helper()
	s := newSource(p, fuel)
	f := newFlat(compiled(t, p), 20*fuel)
	written := s.outcome(func() *value { return s.tops.find(name).now() })
	return written, f.outcome(func() *value { return f.globs[name].now() })
}

// P14.2

func TestMeanings(t *testing.T) {
	const help = "zero = 1 / 0; none = case 1 of { 2 -> 3 }; nolist = case 1 of { 2 -> N }; zlist = case zero of { 1 -> N }; notree = case 1 of { 2 -> A }; nobool = case 1 of { 2 -> True }; id x = x; k x y = x; len N = 0; len (C _ l) = 1 + len l; "
	for _, c := range []struct{ src, want string }{
		// Clauses in order, their patterns from the left.
		{"f 0 = 1; f 1 = 2; f n = n * 10; x = C (f 0) (C (f 1) (C (f 2) N))", "(C 1 (C 2 (C 20 (N))))"},
		{"f 0 = 1; x = f 1", "match"},
		{"f 0 0 = 1; f _ 1 = 2; x = f zero 1", "zero"},
		{"f 0 0 = 1; f _ 1 = 2; x = f none 1", "match"},
		{"f 0 0 = 1; f _ 1 = 2; x = f 1 1", "2"},
		{"f 0 0 = 1; f _ 1 = 2; x = f 1 zero", "zero"},
		{"f 0 0 = 1; f _ _ = 2; x = f 1 zero", "2"},
		{"f 0 0 = 1; f _ _ = 2; x = f 0 zero", "zero"},
		{"f 0 0 = 1; f _ _ = 2; x = f zero none", "zero"},
		{"f 0 0 = 1; f _ _ = 2; x = f none zero", "match"},
		{"f _ 0 = 1; f 0 _ = 2; x = f zero 0", "1"},
		{"f _ 0 = 1; f 0 _ = 2; x = f zero none", "match"},
		{"f _ 0 = 1; f 0 _ = 2; x = f zero 1", "zero"},
		{"f x y = 1; x = f zero none", "1"},
		{"f x = 1; f 2 = zero; x = f none", "1"},
		{"f 9223372036854775807 = 1; f (-9223372036854775808) = 2; f _ = 3; x = C (f (9223372036854775806 + 1)) (C (f (9223372036854775807 + 1)) (C (f 0) N))", "(C 1 (C 2 (C 3 (N))))"},
		// Constructors: first which one, then the fields, from the left.
		{"f N = 0; f (C x _) = x; x = f (C 5 nolist)", "5"},
		{"f N = 0; f (C x _) = 7; x = f (C zero nolist)", "7"},
		{"f N = 0; f (C 1 N) = 7; x = f nolist", "match"},
		{"f N = 0; f (C 1 N) = 7; x = f (C zero nolist)", "zero"},
		{"f N = 0; f (C _ N) = 7; x = f (C zero nolist)", "match"},
		{"f N = 0; f (C 1 N) = 7; f _ = 8; x = f (C 2 nolist)", "8"},
		{"f (C 1 N) y = 7; f _ 1 = 8; x = f (C 1 (C zero nolist)) 1", "8"},
		{"f (C 1 (C 2 N)) = 7; f (C _ (C 3 _)) = 8; f (C 1 _) = 9; x = C (f (C 1 (C 3 nolist))) (C (f (C 1 (C 4 nolist))) (C (f (C 1 (C 2 N))) N))", "(C 8 (C 9 (C 7 (N))))"},
		{"f (C x (C y l)) = x * 10 + y; f (C x l) = x; f l = 0; x = f (C 1 (C 2 N)) * 100 + f (C 3 N) * 10 + f N", "1230"},
		{"f U = 1; x = f (case zero of { 1 -> U })", "zero"},
		{"f x = 1; x = f (case zero of { 1 -> U })", "1"},
		{"f A 1 = 1; f B _ = 2; f A n = n; f _ 5 = 6; x = C (f A 1) (C (f A 9) (C (f B zero) (C (f (D 1 A) 5) N)))", "(C 1 (C 9 (C 2 (C 6 (N)))))"},
		{"f A 1 = 1; f B _ = 2; f A n = n; f _ 5 = 6; x = f (D 1 A) 4", "match"},
		{"f (W A 1 b) = b; f (W t 2 True) = False; f (W (D n A) _ b) = b; x = f (W notree 2 True)", "match"},
		{"f (W A 1 b) = b; f (W t 2 True) = False; f (W (D n A) _ b) = b; x = f (W B 2 nobool)", "match"},
		{"f (W A 1 b) = b; f (W t 2 True) = False; f (W (D n A) _ b) = b; x = f (W (D zero A) 2 False)", "(False)"},
		// Guards: the next one, then the next clause, then none.
		{"f x | x == 1 = 10 | x == 2 = 20; f 3 = 30; f x | x == 4 = 40; x = C (f 1) (C (f 2) (C (f 3) (C (f 4) N)))", "(C 10 (C 20 (C 30 (C 40 (N)))))"},
		{"f x | x == 1 = 10 | x == 2 = 20; f 3 = 30; f x | x == 4 = 40; x = f 5", "match"},
		{"f x y | y == 1 = 10; f 1 y = 20; x = f zero 1", "10"},
		{"f x y | y == 1 = 10; f 1 y = 20; x = f zero 2", "zero"},
		{"f x y | x = 1 | y = 2; x = f True nobool", "1"},
		{"f x y | x = 1 | y = 2; x = f nobool True", "match"},
		{"f x | False = 1; x = f zero", "match"},
		{"f x | False = 1 | True = 2; x = f zero", "2"},
		{"f y | y == 1 = 2; f x = y; y = 7; x = f 3", "7"},
		{"f 1 y | y = 2; f x _ = 3; x = C (f 1 True) (C (f 1 False) (C (f 2 nobool) N))", "(C 2 (C 3 (C 3 (N))))"},
		{"x | False = 1 | True = 2", "2"},
		{"x | False = 1", "match"},
		{"x | zero == 1 = 1 | True = 2", "zero"},
		// Functions, and as many arguments as they take.
		{"f 0 y = y; x = f zero", "->"},
		{"f 0 = \\y -> y; x = f zero", "zero"},
		{"f 0 = \\y -> y; x = f 0", "->"},
		{"x = \\a b -> zero", "->"},
		{"x = (\\_ y _ -> y) zero 3 none", "3"},
		{"x = (\\y -> \\y -> y) zero 3", "3"},
		// Cases.
		{"x = case zero of { y -> 1 }", "1"},
		{"x = case zero of { _ -> 1 }", "1"},
		{"x = case zero of { 0 -> 1; _ -> 2 }", "zero"},
		{"x = case zero of { _ | True -> 1; 0 -> 2 }", "1"},
		{"x = case zero of { _ | False -> 1; 0 -> 2 }", "zero"},
		{"x = case 1 + 2 of { y | y == 4 -> 1; 3 | False -> 2; z | z == 3 -> z * 100; 3 -> 5 }", "300"},
		{"x = case 1 of { 0 -> 1 }", "match"},
		{"f 1 y = case y of { 0 -> 5 }; f x _ = 6; x = f 1 1", "match"},
		{"x = case nolist of { C 1 _ -> 1; N -> 2 }", "match"},
		{"x = case C 2 nolist of { C 1 _ -> 1; N -> 2; C y _ -> y }", "2"},
		{"x = case k of { g -> g 1 zero }", "1"},
		{"x = case (+) of { g -> g 1 2 }", "3"},
		{"x = case C of { g -> g 1 N }", "(C 1 (N))"},
		// Conditions.
		{"x = if True then 1 else zero", "1"},
		{"x = if False then none else 2", "2"},
		{"x = if zero == 1 then 1 else none", "zero"},
		{"x = if nobool then zero else zero", "match"},
		// Operators: the first one is asked first, then the second one.
		{"x = zero + none", "zero"},
		{"x = none + zero", "match"},
		{"x = none / 0", "match"},
		{"x = none == zero", "match"},
		{"x = (+) zero", "->"},
		{"x = (+) zero none", "zero"},
		{"x = id (+) none zero", "match"},
		{"x = id ((-) 9) 2", "7"},
		{"x = (if True then (/) else (*)) 7 2", "3"},
		{"x = 7 % (-2)", "1"},
		{"x = C (1 - 2) N", "(C -1 (N))"},
		{"x = W A (2 * 3) (1 < 2)", "(W (A) 6 (True))"},
		{"x = W A (2 * 3) (1 >= 2)", "(W (A) 6 (False))"},
		// Constructors with fewer arguments than fields, and with what is asked later.
		{"x = C", "->"},
		{"x = C zero", "->"},
		{"x = id C 1 N", "(C 1 (N))"},
		{"x = len (C zero (C none N))", "2"},
		{"x = C zero nolist", "zero"},
		{"x = C 1 zlist", "zero"},
		{"x = D none (case zero of { 1 -> A })", "match"},
		{"x = G (\\y -> zero)", "(G ->)"},
		{"x = case G ((+) 2) of { G g -> g 3; H -> 4 }", "5"},
		// Bindings: all are in scope of all; nothing is asked that isn't needed.
		{"x = let { a = zero; b = 2 } in b", "2"},
		{"x = let { a = b; b = c; c = 3 } in a", "3"},
		{"x = let { l = C 1 l } in case l of { C a (C b _) -> a + b }", "2"},
		{"x = let { e 0 = True; e n = o (n - 1); o 0 = False; o n = e (n - 1) } in e 7", "(False)"},
		{"f n = let { g 0 = n; g m = g (m - 1) } in g 3; x = f 8", "8"},
		{"x = let { f = 1 } in f; f = 2", "1"},
		{"x = let { f 0 = 1 } in f 2", "match"},
		{"x = let { f 0 = 1; g = f 2 } in 3", "3"},
		{"x = let { y | False = 1 } in y", "match"},
		// What is further in hides.
		{"f f = f; x = f 3", "3"},
		{"f x = let { x = 4 } in x; x = f 3", "4"},
		{"f x (C x2 l) = case l of { C x _ -> x; N -> x }; x = C (f 1 (C 2 (C 3 N))) (C (f 1 (C 2 N)) N)", "(C 3 (C 1 (N)))"},
		{"f (C x l) | x == 1 = 1; f l = case l of { C l x -> l }; x = f (C 5 nolist)", "5"},
		{"f y | y == 1 = 2; f 3 = y; f z = k z y; y = 5; x = C (f 3) (C (f 4) N)", "(C 5 (C 4 (N)))"},
		{"f x = case x of { x | x == 1 -> 2; 3 -> x; x -> case x + 1 of { x -> x } }; x = C (f 1) (C (f 3) (C (f 7) N))", "(C 2 (C 3 (C 8 (N))))"},
		// What never comes to anything.
		{"x = x", "nothing"},
		{"f y = f y; x = f 1", "nothing"},
		{"x = C 1 x", "nothing"},
	} {
		p := program(t, help+c.src)
		written, made := meant(t, p, "x", 2000)
		same(t, c.src, written, c.want)
		same(t, c.src, made, c.want)
	}
}
