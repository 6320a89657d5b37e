package show_test

import (
	"math"
	"reflect"
	"strings"
	"testing"

	"changeling/api"
	"changeling/lex"
	"changeling/num"
	"changeling/parse"
	"changeling/show"
)

// The chapter's words once more, as texts put together from within: what is written is held against them.

func sign(s string) bool { return strings.Contains("!#$%&*+./:<=>?@^|~-", s[:1]) }

func infix(e api.Expr) bool {
	return e.Kind == api.EApp && e.Args[0].Kind == api.EApp && e.Args[0].Args[0].Kind == api.EVar && sign(e.Args[0].Args[0].Name)
}

func brackets(s string, must bool) string {
	if must {
		return "(" + s + ")"
	}
	return s
}

// each is what f makes of each of a list.
func each[T any](l []T, f func(T) string) []string {
	var all []string
	for _, x := range l {
		all = append(all, f(x))
	}
	return all
}

func row(first string, l []string) string { return strings.Join(append([]string{first}, l...), " ") }

func atom(e api.Expr) string {
	switch e.Kind {
	case api.EVar:
		return brackets(e.Name, sign(e.Name))
	case api.ECon:
		return e.Name
	case api.EInt:
		return brackets(num.Text(e.N), e.N < 0)
	}
	return "(" + expr(e) + ")"
}

func operand(e api.Expr) string {
	switch e.Kind {
	case api.ELam, api.ELet, api.ECase, api.EIf:
		return "(" + expr(e) + ")"
	}
	return brackets(expr(e), infix(e))
}

func expr(e api.Expr) string {
	switch e.Kind {
	case api.EApp:
		if infix(e) {
			return operand(e.Args[0].Args[1]) + " " + e.Args[0].Args[0].Name + " " + operand(e.Args[1])
		}
		if f := e.Args[0]; f.Kind == api.EApp && !infix(f) {
			return expr(f) + " " + atom(e.Args[1])
		}
		return atom(e.Args[0]) + " " + atom(e.Args[1])
	case api.ELam:
		return "\\" + strings.Join(e.Params, " ") + " -> " + expr(e.Args[0])
	case api.ELet:
		return "let { " + strings.Join(clauses(e.Binds), "; ") + " } in " + expr(e.Args[0])
	case api.ECase:
		return "case " + expr(e.Args[0]) + " of { " + strings.Join(each(e.Alts, func(a api.Alt) string { return pat(a.Pat) + bodies("->", a.Rhs) }), "; ") + " }"
	case api.EIf:
		return "if " + expr(e.Args[0]) + " then " + expr(e.Args[1]) + " else " + expr(e.Args[2])
	}
	return atom(e)
}

func bodies(sign string, l []api.Rhs) string {
	s := ""
	for _, r := range l {
		if len(r.Guard) > 0 {
			s += " | " + expr(r.Guard[0])
		}
		s += " " + sign + " " + expr(r.Body)
	}
	return s
}

func clauses(l []api.Bind) []string {
	var all []string
	for _, b := range l {
		for _, c := range b.Clauses {
			all = append(all, row(brackets(b.Name, sign(b.Name)), each(c.Pats, innerPat))+bodies("=", c.Rhs))
		}
	}
	return all
}

func pat(p api.Pat) string {
	switch p.Kind {
	case api.PAny:
		return "_"
	case api.PInt:
		return brackets(num.Text(p.N), p.N < 0)
	}
	return row(p.Name, each(p.Args, innerPat))
}

func innerPat(p api.Pat) string { return brackets(pat(p), p.Kind == api.PCon && len(p.Args) > 0) }

func typ(t api.Type) string {
	if t.Kind == api.KFun {
		return brackets(typ(t.Args[0]), t.Args[0].Kind == api.KFun) + " -> " + typ(t.Args[1])
	}
	return row(t.Name, each(t.Args, innerType))
}

func innerType(t api.Type) string {
	return brackets(typ(t), t.Kind == api.KFun || t.Kind == api.KCon && len(t.Args) > 0)
}

func program(p api.Program) string {
	var l []string
	for _, d := range p.Datas {
		l = append(l, row("data "+d.Name, d.Params)+" = "+strings.Join(each(d.Cons, func(c api.Constr) string { return row(c.Name, each(c.Fields, innerType)) }), " | "))
	}
	for _, f := range p.Fixes {
		l = append(l, []string{"infix", "infixl", "infixr"}[f.Assoc]+" "+num.Text(int64(f.Level))+" "+f.Op)
	}
	s := ""
	for _, line := range append(l, clauses(p.Binds)...) {
		s += line + "\n"
	}
	return s
}

// chain makes choices, and of these what may be, always the same.
type chain uint32

func (c *chain) pick(n int) int {
	*c = *c*1664525 + 1013904223
	return int(*c>>16) % n
}

func (c *chain) word(l ...string) string { return l[c.pick(len(l))] }

func (c *chain) number() int64 {
	return []int64{0, 1, -1, 42, -42, math.MaxInt64, math.MinInt64}[c.pick(7)]
}

// some is up to n of what f makes, and so many at least.
func some[T any](c *chain, least, n int, f func() T) []T {
	var l []T
	for range least + c.pick(n-least+1) {
		l = append(l, f())
	}
	return l
}

func (c *chain) variable() string {
	return c.word("x", "y", "f'", "_z", "abcdefghijklmnopqrstuvwxyz012345")
}
func (c *chain) constructor() string { return c.word("C", "D'", "True") }
func (c *chain) operator() string    { return c.word("+", "-", "<", "&&", ".", "->>", "!") }
func (c *chain) any() string         { return c.word(c.variable(), c.operator()) }
func (c *chain) at() api.Pos         { return api.Pos{Line: c.pick(3), Col: c.pick(3)} }

func (c *chain) expr(depth int) api.Expr {
	if depth == 0 {
		return []api.Expr{v(c.any()), v(c.variable()), con(c.constructor()), n(c.number())}[c.pick(4)]
	}
	inner := func() api.Expr { return c.expr(c.pick(depth)) }
	var e api.Expr
	switch c.pick(9) {
	case 0, 1, 2:
		e = app(inner(), inner())
	case 3, 4:
		e = op(c.operator(), inner(), inner())
	case 5:
		e = api.Expr{Kind: api.ELam, Params: some(c, 1, 3, func() string { return c.word("_", c.variable()) }), Args: []api.Expr{inner()}}
	case 6:
		e = let(inner(), c.binds(1, depth)...)
	case 7:
		e = cases(inner(), some(c, 1, 3, func() api.Alt { return api.Alt{Pat: c.pat(c.pick(3)), Rhs: c.bodies(depth)} })...)
	default:
		e = cond(inner(), inner(), inner())
	}
	e.At = c.at()
	return e
}

func (c *chain) bodies(depth int) []api.Rhs {
	inner := func() api.Expr { return c.expr(c.pick(depth)) }
	if c.pick(2) == 0 {
		return []api.Rhs{body(inner())}
	}
	return some(c, 1, 2, func() api.Rhs { return guard(inner(), inner()) })
}

func (c *chain) binds(least, depth int) []api.Bind {
	l := some(c, least, 3, func() api.Bind {
		return api.Bind{Name: c.any(), At: c.at(), Clauses: some(c, 1, 2, func() api.Clause {
			return api.Clause{Pats: some(c, 0, 3, func() api.Pat { return c.pat(c.pick(3)) }), Rhs: c.bodies(depth)}
		})}
	})
	for i := 1; i < len(l); i++ {
		for l[i].Name == l[i-1].Name {
			l[i].Name = c.any()
		}
	}
	return l
}

func (c *chain) pat(depth int) api.Pat {
	p := []api.Pat{pany(), pvar(c.variable()), pint(c.number()), pcon(c.constructor())}[c.pick(4)]
	if depth > 0 {
		p = pcon(c.constructor(), some(c, 0, 3, func() api.Pat { return c.pat(c.pick(depth)) })...)
	}
	p.At = c.at()
	return p
}

func (c *chain) typ(depth int) api.Type {
	inner := func() api.Type { return c.typ(c.pick(depth)) }
	switch {
	case depth == 0:
		return []api.Type{tvar(c.variable()), tcon(c.constructor())}[c.pick(2)]
	case c.pick(2) == 0:
		return fun(inner(), inner())
	}
	return tcon(c.constructor(), some(c, 0, 3, inner)...)
}

func (c *chain) program() api.Program {
	return api.Program{
		Datas: some(c, 0, 2, func() api.Data {
			return api.Data{Name: c.constructor(), Params: some(c, 0, 3, c.variable), At: c.at(), Cons: some(c, 1, 3, func() api.Constr {
				return api.Constr{Name: c.constructor(), Fields: some(c, 0, 3, func() api.Type { return c.typ(c.pick(4)) }), At: c.at()}
			})}
		}),
		Fixes: some(c, 0, 3, func() api.Fix {
			return api.Fix{Op: c.operator(), Assoc: c.pick(3), Level: c.pick(10), At: c.at()}
		}),
		Binds: c.binds(0, 4),
	}
}

// readable tells whether a text is short enough to be read.
func readable(s string) bool {
	_, f := lex.Tokens(s)
	return f.Err == api.OK
}

// same tells whether two things are the same, a list without elements being nil or empty.
func same(a, b reflect.Value) bool {
	switch a.Kind() {
	case reflect.Struct:
		for i := range a.NumField() {
			if !same(a.Field(i), b.Field(i)) {
				return false
			}
		}
		return true
	case reflect.Slice:
		if a.Len() != b.Len() {
			return false
		}
		for i := range a.Len() {
			if !same(a.Index(i), b.Index(i)) {
				return false
			}
		}
		return true
	}
	return a.Equal(b)
}

func sameProgram(a, b api.Program) bool {
	return same(reflect.ValueOf(parse.Strip(a)), reflect.ValueOf(parse.Strip(b)))
}

func sameExpr(a, b api.Expr) bool {
	return same(reflect.ValueOf(parse.Bare(a)), reflect.ValueOf(parse.Bare(b)))
}

// checkExpr holds an expression that may be against the chapter's words. P7.1, P7.2, P7.5
func checkExpr(t *testing.T, e api.Expr) {
	t.Helper()
	want := expr(e)
	if got := show.Expr(e); got != want || !show.RightExpr(e) || show.Infix(e) != infix(e) {
		t.Fatalf("%q, %v, %v, not %q of %v", got, show.RightExpr(e), show.Infix(e), want, e)
	}
	if !readable(want) {
		return
	}
	for _, ways := range [][]api.Fix{nil, {{Op: "+", Assoc: api.FixNone, Level: 9}, {Op: "-", Assoc: api.FixRight}}} {
		if again, f := parse.Expr(want, ways); f != (api.Fault{}) || !sameExpr(again, e) {
			t.Fatalf("%q is read as %v, %v, not %v", want, again, f, e)
		}
	}
}

// checkProgram does the same of a program. P7.1, P7.2, P7.3
func checkProgram(t *testing.T, p api.Program) {
	t.Helper()
	want := program(p)
	if got := show.Program(p); got != want || !show.Right(p) {
		t.Fatalf("%q, %v, not %q of %v", got, show.Right(p), want, p)
	}
	if !readable(want) {
		return
	}
	if again, f := parse.Program(want); f != (api.Fault{}) || !sameProgram(again, p) {
		t.Fatalf("%q is read as %v, %v, not %v", want, again, f, p)
	}
}

func TestManyExpressions(t *testing.T) {
	c := chain(1)
	for i := range 20000 {
		checkExpr(t, c.expr(i%7))
	}
}

func TestManyPrograms(t *testing.T) {
	c := chain(2)
	for range 5000 {
		checkProgram(t, c.program())
	}
}

func TestManyPatternsAndTypes(t *testing.T) {
	c := chain(3)
	for i := range 5000 {
		p, ty := c.pat(i%6), c.typ(i%6)
		if got, want := show.Pat(p), pat(p); got != want || !show.RightPat(p) {
			t.Fatalf("%q, not %q", got, want)
		}
		if got, want := show.Type(ty), typ(ty); got != want || !show.RightType(ty) {
			t.Fatalf("%q, not %q", got, want)
		}
		checkProgram(t, api.Program{Datas: []api.Data{data("D", "", constr("C", ty, ty))}, Binds: []api.Bind{bind("f", clause(body(cases(n(1), alt(p, body(n(2))))), p, p))}})
	}
}

// distinct asks whether all that is put in has a form of its own. P7.4
type distinct[T any] struct {
	t     *testing.T
	write func(T) string
	forms map[string]T
	n     int
}

func (d *distinct[T]) put(x T) {
	s := d.write(x)
	if other, ok := d.forms[s]; ok && !same(reflect.ValueOf(x), reflect.ValueOf(other)) || s == "" {
		d.t.Fatalf("%q of %v and %v", s, x, other)
	}
	d.forms[s] = x
	d.n++
}

// shapes are all expressions made in one step of some, and what shows how they are put in brackets.
func shapes(l []api.Expr, more bool) []api.Expr {
	var all []api.Expr
	for _, a := range l {
		all = append(all, lam("x", a), lam("x _", a), let(a, bind("x", clause(body(n(1))))), let(n(1), bind("x", clause(body(a)))), let(n(1), bind("x", clause(guard(a, a)), clause(body(a), pany()))),
			let(n(1), bind("x", clause(body(n(1)))), bind("y", clause(body(a)))), cases(a, alt(pany(), body(n(1)))), cases(n(1), alt(pvar("x"), body(a))), cases(n(1), alt(pint(-1), guard(a, n(1)), guard(n(1), a))),
			cases(n(1), alt(pany(), body(n(1))), alt(pany(), body(a))), cond(a, n(1), n(1)), cond(n(1), a, n(1)), cond(n(1), n(1), a))
		for _, b := range l {
			all = append(all, app(a, b))
			if more {
				all = append(all, op("+", a, b), op("-", a, b), app(app(v("x"), a), b), cond(n(1), a, b))
			}
		}
	}
	return all
}

func TestUnlikeForms(t *testing.T) {
	d := &distinct[api.Expr]{t: t, write: show.Expr, forms: map[string]api.Expr{}}
	leaves := []api.Expr{v("x"), v("+"), v("-"), con("C"), n(1), n(-1)}
	small := append(shapes(leaves, true), leaves...)
	for _, e := range append(shapes(small, false), small...) {
		checkExpr(t, e)
		d.put(e)
	}
	if d.n < 50000 {
		t.Error(d.n)
	}
}

func TestUnlikeFormsOfOthers(t *testing.T) {
	ps := &distinct[api.Pat]{t: t, write: show.Pat, forms: map[string]api.Pat{}}
	l := []api.Pat{pany(), pvar("x"), pint(1), pint(-1), pcon("C"), pcon("D")}
	for range 2 {
		for _, a := range l {
			ps.put(a)
		}
		for _, a := range l {
			l = append(l, pcon("C", a))
			for _, b := range l[:min(len(l), 40)] {
				l = append(l, pcon("C", a, b))
			}
		}
	}
	ts := &distinct[api.Type]{t: t, write: show.Type, forms: map[string]api.Type{}}
	m := []api.Type{tvar("a"), tcon("C"), tcon("D")}
	for range 3 {
		for _, a := range m {
			ts.put(a)
		}
		for _, a := range m {
			m = append(m, tcon("C", a))
			for _, b := range m[:min(len(m), 30)] {
				m = append(m, tcon("C", a, b), fun(a, b))
			}
		}
	}
	progs := &distinct[api.Program]{t: t, write: func(p api.Program) string { return "." + show.Program(p) }, forms: map[string]api.Program{}}
	c := chain(4)
	for range 5000 {
		progs.put(parse.Strip(c.program()))
	}
}

// P7.3: what a source is may be. Sources of all words, behind some with which much may go on.

func TestWhatIsReadMayBe(t *testing.T) {
	read := 0
	var grow func(src string, n int)
	grow = func(src string, n int) {
		if p, f := parse.Program(src); f == (api.Fault{}) {
			read++
			checkProgram(t, p)
		}
		if e, f := parse.Expr(src, nil); f == (api.Fault{}) {
			read++
			checkExpr(t, e)
		}
		if n == 0 {
			return
		}
		for _, w := range []string{"x", "C", "+", "-", "1", "(", ")", "{", "}", ";", "_", "=", "|", "->", "\\", "let", "in"} {
			grow(src+" "+w, n-1)
		}
	}
	for _, stem := range []string{"", "x =", "x = (", "x (", "x | 1 =", "data C = C", "data C = C (x", "infixr 1 + ;", "let x = 1 in", "case x of", "x = let x = 1 ;", "if x then 1 else", "\\ x _ -> x"} {
		grow(stem, 3)
	}
	if read < 500 {
		t.Error(read)
	}
	for _, src := range []string{
		"f x (C _ 0) (- 1) | x = 1 + 2\n  | C = f (- 3)\n(+) x y = y - x", "infixr 3 +\ninfix 3 <\nf = 1 + 2 + 3 * 4 ! 5\n",
		"data A a b = B | C a (A b (a -> C)) | D (B) ((a)) ((a -> (b)) -> (a -> b)) (Int)",
		"f = let x = 1\n        y _ = \\ a _ -> a + x\n    in case y 1 of\n      C z -> z\n      _ | 1 -> 2\n        | 3 -> 4\ng = if f then (g) else (+) 1 2",
	} {
		p, f := parse.Program(src)
		if f != (api.Fault{}) {
			t.Fatal(src, f)
		}
		checkProgram(t, p)
	}
}

// broken calls f as often as a value has a part that can be broken, that one part being broken.
func broken(x reflect.Value, f func()) {
	breaks := func(field string, to int64) {
		k := x.FieldByName(field)
		was := k.Int()
		k.SetInt(to)
		f()
		k.SetInt(was)
	}
	switch x.Kind() {
	case reflect.Slice:
		for i := range x.Len() {
			broken(x.Index(i), f)
		}
	case reflect.String:
		was := x.String()
		if was != "" {
			x.SetString("")
			f()
			x.SetString(was)
		}
	case reflect.Struct:
		switch x.Interface().(type) {
		case api.Expr, api.Pat, api.Type:
			breaks("Kind", 99)
		case api.Fix:
			breaks("Level", 10)
		}
		for i := range x.NumField() {
			broken(x.Field(i), f)
		}
	}
}

// P7.1, P7.2: one part that may not be, wherever it stands.

func TestOnePartBroken(t *testing.T) {
	c := chain(5)
	parts := 0
	for range 60 {
		p := c.program()
		broken(reflect.ValueOf(&p).Elem(), func() {
			parts++
			if show.Right(p) || show.Program(p) != "" {
				t.Fatalf("%q of %v", show.Program(p), p)
			}
		})
		checkProgram(t, p)
		e := c.expr(5)
		broken(reflect.ValueOf(&e).Elem(), func() {
			if show.RightExpr(e) || show.Expr(e) != "" || show.Infix(e) {
				t.Fatalf("%q of %v", show.Expr(e), e)
			}
		})
		q, ty := c.pat(4), c.typ(4)
		broken(reflect.ValueOf(&q).Elem(), func() {
			if show.RightPat(q) || show.Pat(q) != "" {
				t.Fatalf("%q of %v", show.Pat(q), q)
			}
		})
		broken(reflect.ValueOf(&ty).Elem(), func() {
			if show.RightType(ty) || show.Type(ty) != "" {
				t.Fatalf("%q of %v", show.Type(ty), ty)
			}
		})
	}
	if parts < 1000 {
		t.Error(parts)
	}
}

// What is asked for is not changed.

func TestNothingIsChanged(t *testing.T) {
	c, d := chain(6), chain(6)
	for range 500 {
		p, as := c.program(), d.program()
		show.Program(p)
		if !reflect.DeepEqual(p, as) {
			t.Fatalf("%v was changed to %v", as, p)
		}
	}
}

// P7.2: texts longer than MaxSource.

func TestLongTexts(t *testing.T) {
	e, want := n(1), strings.Repeat("1 + (", 0)
	for range 5000 {
		e = op("+", n(-1), e)
		want += "(-1) + ("
	}
	want = strings.TrimSuffix(want, "(") + "1" + strings.Repeat(")", 4999)
	if got := show.Expr(e); got != want || len(got) <= api.MaxSource || !show.Infix(e) {
		t.Errorf("%d bytes, not %d", len(got), len(want))
	}
	if _, f := parse.Expr(want, nil); f.Err != api.ErrLong {
		t.Error(f)
	}
	p := api.Program{Binds: []api.Bind{bind("f", clause(body(e)))}}
	if got := show.Program(p); got != "f = "+want+"\n" {
		t.Errorf("%d bytes, not %d", len(got), len(want)+5)
	}
	var l []api.Clause
	for range 1 << 16 {
		l = append(l, clause(body(n(1)), pany()))
	}
	if got := show.Program(api.Program{Binds: []api.Bind{bind("f", l...)}}); got != strings.Repeat("f _ = 1\n", 1<<16) {
		t.Errorf("%d bytes", len(got))
	}
}

// P1, where parts are nested deep.

func TestDeepParts(t *testing.T) {
	x := v("x")
	for i, within := range []func(api.Expr) api.Expr{
		func(e api.Expr) api.Expr { return app(e, x) },
		func(e api.Expr) api.Expr { return app(x, e) },
		func(e api.Expr) api.Expr { return op("+", e, x) },
		func(e api.Expr) api.Expr { return op("+", x, e) },
		func(e api.Expr) api.Expr { return lam("x", e) },
		func(e api.Expr) api.Expr { return cond(x, x, e) },
		func(e api.Expr) api.Expr { return cases(e, alt(pany(), body(x))) },
		func(e api.Expr) api.Expr { return cases(x, alt(pany(), guard(e, x))) },
		func(e api.Expr) api.Expr { return let(x, bind("x", clause(body(e)))) },
	} {
		e := x
		for range 1 << 15 {
			e = within(e)
		}
		if !show.RightExpr(e) || len(show.Expr(e)) < 1<<15 || show.Infix(e) != (i == 2 || i == 3) {
			t.Error(i)
		}
	}
	p, left, right := pany(), tvar("a"), tvar("a")
	for range 1 << 15 {
		p, left, right = pcon("C", p), fun(left, tvar("a")), fun(tvar("a"), right)
	}
	if len(show.Pat(p)) < 1<<15 || len(show.Type(left)) < 1<<15 || len(show.Type(right)) < 1<<15 {
		t.Error("deep patterns and types")
	}
}
