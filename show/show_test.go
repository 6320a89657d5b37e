package show_test

import (
	"math"
	"reflect"
	"strings"
	"testing"

	"changeling/api"
	"changeling/parse"
	"changeling/show"
)

// Short ways to write parts.

func v(name string) api.Expr              { return api.Expr{Kind: api.EVar, Name: name} }
func con(name string) api.Expr            { return api.Expr{Kind: api.ECon, Name: name} }
func n(n int64) api.Expr                  { return api.Expr{Kind: api.EInt, N: n} }
func app(f api.Expr, x api.Expr) api.Expr { return api.Expr{Kind: api.EApp, Args: []api.Expr{f, x}} }
func op(name string, a, b api.Expr) api.Expr {
	return app(app(v(name), a), b)
}
func lam(params string, e api.Expr) api.Expr {
	return api.Expr{Kind: api.ELam, Params: strings.Fields(params), Args: []api.Expr{e}}
}
func let(e api.Expr, l ...api.Bind) api.Expr {
	return api.Expr{Kind: api.ELet, Binds: l, Args: []api.Expr{e}}
}
func cases(e api.Expr, l ...api.Alt) api.Expr {
	return api.Expr{Kind: api.ECase, Args: []api.Expr{e}, Alts: l}
}
func cond(a, b, c api.Expr) api.Expr { return api.Expr{Kind: api.EIf, Args: []api.Expr{a, b, c}} }

func body(e api.Expr) api.Rhs              { return api.Rhs{Body: e} }
func guard(g api.Expr, e api.Expr) api.Rhs { return api.Rhs{Guard: []api.Expr{g}, Body: e} }
func alt(p api.Pat, l ...api.Rhs) api.Alt  { return api.Alt{Pat: p, Rhs: l} }
func clause(rhs api.Rhs, l ...api.Pat) api.Clause {
	return api.Clause{Pats: l, Rhs: []api.Rhs{rhs}}
}
func bind(name string, l ...api.Clause) api.Bind { return api.Bind{Name: name, Clauses: l} }

func pany() api.Pat            { return api.Pat{Kind: api.PAny} }
func pvar(name string) api.Pat { return api.Pat{Kind: api.PVar, Name: name} }
func pint(n int64) api.Pat     { return api.Pat{Kind: api.PInt, N: n} }
func pcon(name string, l ...api.Pat) api.Pat {
	return api.Pat{Kind: api.PCon, Name: name, Args: l}
}

func tvar(name string) api.Type { return api.Type{Kind: api.KVar, Name: name} }
func tcon(name string, l ...api.Type) api.Type {
	return api.Type{Kind: api.KCon, Name: name, Args: l}
}
func fun(a, b api.Type) api.Type { return api.Type{Kind: api.KFun, Args: []api.Type{a, b}} }

func data(name string, params string, l ...api.Constr) api.Data {
	return api.Data{Name: name, Params: strings.Fields(params), Cons: l}
}
func constr(name string, l ...api.Type) api.Constr { return api.Constr{Name: name, Fields: l} }

// form is one form and what has it.
type form[T any] struct {
	x    T
	want string
}

// forms asks whether things may be, and for their forms.
func forms[T any](t *testing.T, may func(T) bool, write func(T) string, l ...form[T]) {
	t.Helper()
	for _, f := range l {
		if got := write(f.x); got != f.want || !may(f.x) {
			t.Errorf("%q, %v, not %q", got, may(f.x), f.want)
		}
	}
}

// P7.2

func TestExpr(t *testing.T) {
	a, b, c := v("a"), v("b"), v("c")
	forms(t, show.RightExpr, show.Expr, []form[api.Expr]{
		{a, "a"}, {v("x'"), "x'"}, {v("+"), "(+)"}, {v("||"), "(||)"}, {con("C"), "C"},
		{n(0), "0"}, {n(12), "12"}, {n(-1), "(-1)"}, {n(math.MinInt64), "(-9223372036854775808)"}, {n(math.MaxInt64), "9223372036854775807"},
		// Functions and atoms.
		{app(a, b), "a b"}, {app(app(a, b), c), "a b c"}, {app(a, app(b, c)), "a (b c)"}, {app(con("C"), n(-1)), "C (-1)"},
		{app(n(-1), n(1)), "(-1) 1"}, {app(v("+"), a), "(+) a"}, {app(a, v("+")), "a (+)"}, {app(v("+"), v("-")), "(+) (-)"},
		{app(lam("x", a), b), "(\\x -> a) b"}, {app(a, lam("x", b)), "a (\\x -> b)"},
		{app(cond(a, b, c), cond(a, b, c)), "(if a then b else c) (if a then b else c)"},
		{app(let(a, bind("a", clause(body(n(1))))), b), "(let { a = 1 } in a) b"},
		{app(cases(a, alt(pany(), body(b))), c), "(case a of { _ -> b }) c"},
		// Infix.
		{op("+", a, b), "a + b"}, {op("+", a, op("*", b, c)), "a + (b * c)"}, {op("-", op("-", a, b), c), "(a - b) - c"},
		{app(op("+", a, b), c), "(a + b) c"}, {app(a, op("+", b, c)), "a (b + c)"},
		{op("+", app(a, b), app(b, c)), "a b + b c"}, {op("+", app(v("+"), a), v("+")), "(+) a + (+)"}, {op("+", n(-1), n(-2)), "(-1) + (-2)"},
		{op("+", lam("x", a), lam("x", b)), "(\\x -> a) + (\\x -> b)"},
		{op("+", cond(a, b, c), cond(c, b, a)), "(if a then b else c) + (if c then b else a)"},
		{op("+", let(a, bind("a", clause(body(n(1))))), cases(a, alt(pany(), body(b)))), "(let { a = 1 } in a) + (case a of { _ -> b })"},
		{app(app(a, b), op("+", b, c)), "a b (b + c)"}, {app(app(con("C"), a), b), "C a b"}, {app(app(op("+", a, b), c), a), "(a + b) c a"},
		{op("+", app(op("+", a, b), c), a), "(a + b) c + a"}, {app(app(app(v("+"), a), b), c), "(a + b) c"},
		{app(app(n(1), a), b), "1 a b"}, {app(app(app(a, b), c), op(".", a, b)), "a b c (a . b)"},
		// The others.
		{lam("x", a), "\\x -> a"}, {lam("_ x _", op("+", a, b)), "\\_ x _ -> a + b"}, {lam("x", lam("y", a)), "\\x -> \\y -> a"},
		{cond(op("<", a, b), app(a, b), lam("x", a)), "if a < b then a b else \\x -> a"}, {cond(cond(a, b, c), cond(a, b, c), cond(a, b, c)), "if if a then b else c then if a then b else c else if a then b else c"},
		{let(app(a, b), bind("a", clause(body(n(1)), pvar("x")), clause(body(n(2)), pany())), bind("+", clause(body(n(3))))), "let { a x = 1; a _ = 2; (+) = 3 } in a b"},
		{let(let(a, bind("b", clause(body(b)))), bind("a", clause(body(lam("x", a))))), "let { a = \\x -> a } in let { b = b } in a"},
		{cases(op("+", a, b), alt(pcon("C", pvar("x"), pcon("D", pany())), body(n(-1))), alt(pany(), guard(a, b), guard(b, lam("x", c)))), "case a + b of { C x (D _) -> (-1); _ | a -> b | b -> \\x -> c }"},
		{cases(cases(a, alt(pint(-1), body(b))), alt(pint(1), guard(cases(a, alt(pvar("x"), body(a))), b))), "case case a of { (-1) -> b } of { 1 | case a of { x -> a } -> b }"},
	}...)
}

func TestPat(t *testing.T) {
	forms(t, show.RightPat, show.Pat, []form[api.Pat]{
		{pany(), "_"}, {pvar("x"), "x"}, {pint(7), "7"}, {pint(-7), "(-7)"}, {pint(0), "0"}, {pcon("C"), "C"},
		{pcon("C", pvar("x"), pany(), pint(1), pint(-1), pcon("D")), "C x _ 1 (-1) D"},
		{pcon("C", pcon("D", pvar("x")), pcon("E", pcon("F", pany()))), "C (D x) (E (F _))"},
	}...)
}

func TestType(t *testing.T) {
	a, b, c := tvar("a"), tcon("B"), tcon("C", tvar("c"))
	forms(t, show.RightType, show.Type, []form[api.Type]{
		{a, "a"}, {b, "B"}, {c, "C c"}, {fun(a, b), "a -> B"}, {fun(a, fun(b, c)), "a -> B -> C c"}, {fun(fun(a, b), c), "(a -> B) -> C c"},
		{fun(fun(fun(a, b), c), fun(c, a)), "((a -> B) -> C c) -> C c -> a"},
		{tcon("T", a, b, c, fun(a, b)), "T a B (C c) (a -> B)"}, {fun(tcon("T", fun(a, b)), a), "T (a -> B) -> a"},
	}...)
}

func TestProgram(t *testing.T) {
	forms(t, show.Right, show.Program, []form[api.Program]{
		{api.Program{}, ""},
		{api.Program{Binds: []api.Bind{bind("f", clause(body(op("+", v("x"), op("*", n(1), n(2)))), pvar("x")))}}, "f x = x + (1 * 2)\n"},
		{api.Program{
			Datas: []api.Data{data("L", "", constr("N"), constr("C", tcon("Int"), tcon("L"))), data("P", "a b", constr("P", tvar("a"), tcon("L", tvar("b")), fun(tvar("a"), tvar("b"))))},
			Fixes: []api.Fix{{Op: "+", Assoc: api.FixLeft, Level: 6}, {Op: "!", Assoc: api.FixRight, Level: 0}, {Op: "<", Assoc: api.FixNone, Level: 9}},
			Binds: []api.Bind{
				bind("f", clause(body(n(1)), pint(0), pcon("C", pany())), api.Clause{Pats: []api.Pat{pint(-1), pcon("N")}, Rhs: []api.Rhs{guard(v("a"), n(2)), guard(op("<", n(1), n(2)), n(-3))}}),
				bind("+", clause(body(v("+")), pvar("a"), pvar("b"))),
				bind("f", clause(body(con("C")))),
			},
		}, "data L = N | C Int L\ndata P a b = P a (L b) (a -> b)\ninfixl 6 +\ninfixr 0 !\ninfix 9 <\n" +
			"f 0 (C _) = 1\nf (-1) N | a = 2 | 1 < 2 = (-3)\n(+) a b = (+)\nf = C\n"},
	}...)
}

// The chapter's examples.

func TestExamples(t *testing.T) {
	p, f := parse.Program("f x=x+1*2")
	if got := show.Program(p); f.Err != api.OK || got != "f x = x + (1 * 2)\n" {
		t.Errorf("%q, %v", got, f)
	}
	e, f := parse.Expr("let a = (-1) in f (C a)", nil)
	if got := show.Expr(e); f.Err != api.OK || got != "let { a = (-1) } in f (C a)" {
		t.Errorf("%q, %v", got, f)
	}
}

// P7.1: Infix.

func TestInfix(t *testing.T) {
	a, b := v("a"), v("b")
	for _, e := range []api.Expr{op("+", a, b), op("&&", n(1), op("+", a, b)), op("+", lam("x", a), b)} {
		if !show.Infix(e) {
			t.Errorf("%s is not infix", show.Expr(e))
		}
	}
	for _, e := range []api.Expr{
		a, v("+"), n(1), con("C"), app(v("+"), a), app(a, b), app(app(a, b), b), app(app(con("C"), a), b), app(op("+", a, b), b), app(a, op("+", a, b)), app(app(n(1), a), b),
		lam("x", op("+", a, b)), cond(a, op("+", a, b), b), let(op("+", a, b), bind("a", clause(body(op("+", a, b))))), cases(op("+", a, b), alt(pany(), body(a))),
		// What may not be is not infix either.
		{}, op("+", a, api.Expr{}), op("+", v("A"), b), op("->", a, b), op("", a, b), op("+", a, lam("", b)),
		{Kind: api.EApp, Args: []api.Expr{app(v("+"), a)}}, {Kind: api.EApp, Args: []api.Expr{app(v("+"), a), a, b}}, {Kind: api.EApp}, {Kind: api.EApp, Name: "+", Args: op("+", a, b).Args},
		{Kind: api.EApp, Args: []api.Expr{{Kind: api.EApp}, a}}, {Kind: api.EApp, Args: []api.Expr{{Kind: api.EApp, Args: []api.Expr{v("+")}}, a}}, {Kind: api.ELam, Args: op("+", a, b).Args},
	} {
		if show.Infix(e) {
			t.Errorf("%v is infix", e)
		}
	}
}

// names are texts, and which kinds of names they are.
var names = map[string]string{
	"x": "variable", "x'": "variable", "_x": "variable", "__": "variable", "f_1A'": "variable", "lets": "variable", "abcdefghijklmnopqrstuvwxyz012345": "variable",
	"X": "constructor", "True": "constructor", "C'_1": "constructor", "ABCDEFGHIJKLMNOPQRSTUVWXYZ012345": "constructor",
	"+": "operator", "==": "operator", "||": "operator", ".": "operator", "-": "operator", "->>": "operator", "+--": "operator", "=>": "operator", strings.Repeat("<", 32): "operator",
	"_": "wild", "": "", "=": "", "|": "", "->": "", "--": "", "(": "", "(+)": "", ";": "", "\\": "", "{": "", "1": "", "-1": "", "let": "", "data": "", "infixl": "", "else": "",
	"x y": "", " x": "", "x ": "", "x\n": "", "X Y": "", "X.Y": "", "+ +": "", "x+": "", "+x": "", "'x": "", "x--": "", "\"": "", "\u00e4": "", "x\x00": "",
	"abcdefghijklmnopqrstuvwxyz0123456": "", "ABCDEFGHIJKLMNOPQRSTUVWXYZ0123456": "", strings.Repeat("<", 33): "", strings.Repeat("x", 1<<20): "", "-- x": "",
}

// rights are all questions at once: whether something of any type may be, what its form is.
func right(t *testing.T, x any) (bool, string) {
	t.Helper()
	switch x := x.(type) {
	case api.Expr:
		return show.RightExpr(x), show.Expr(x)
	case api.Pat:
		return show.RightPat(x), show.Pat(x)
	case api.Type:
		return show.RightType(x), show.Type(x)
	case api.Program:
		return show.Right(x), show.Program(x)
	case api.Data:
		return right(t, api.Program{Datas: []api.Data{x}})
	case api.Constr:
		return right(t, data("D", "", x))
	case api.Fix:
		return right(t, api.Program{Fixes: []api.Fix{x}})
	case api.Bind:
		return right(t, api.Program{Binds: []api.Bind{x}})
	case api.Clause:
		return right(t, bind("f", x))
	case api.Alt:
		return right(t, cases(n(1), x))
	}
	t.Fatalf("%T", x)
	return false, ""
}

// is asks whether something may be, or may not.
func is(t *testing.T, x any, want bool) {
	t.Helper()
	may, text := right(t, x)
	if may != want || !may && text != "" || may && text == "" {
		t.Errorf("%.300v: %v, %.300q", x, may, text)
	}
}

// P7.1: names.

func TestNames(t *testing.T) {
	x := body(n(1))
	for s, kind := range names {
		variable, constructor, operator := kind == "variable", kind == "constructor", kind == "operator"
		is(t, v(s), variable || operator)
		is(t, con(s), constructor)
		is(t, lam("x", v(s)), variable || operator)
		is(t, api.Expr{Kind: api.ELam, Params: []string{"a", s}, Args: []api.Expr{n(1)}}, variable || kind == "wild")
		is(t, pvar(s), variable)
		is(t, pcon(s), constructor)
		is(t, pcon("C", pcon(s)), constructor)
		is(t, tvar(s), variable)
		is(t, tcon(s), constructor)
		is(t, fun(tvar("a"), tcon(s)), constructor)
		is(t, bind(s, clause(x)), variable || operator)
		is(t, let(n(1), bind(s, clause(x))), variable || operator)
		is(t, constr(s), constructor)
		is(t, data(s, "", constr("C")), constructor)
		is(t, api.Data{Name: "D", Params: []string{"a", s}, Cons: []api.Constr{constr("C")}}, variable)
		is(t, api.Fix{Op: s}, operator)
	}
}

// fieldsOf are parts that may be, of each kind, and the fields that the chapter names for it: of these, a `!` behind one that may not be zero.
var fieldsOf = []struct {
	x     any
	named string
}{
	{v("x"), " Name! "}, {con("C"), " Name! "}, {n(3), " N "}, {op("+", n(1), n(2)), " Args! "}, {lam("x", n(1)), " Params! Args! "}, {cond(n(1), n(2), n(3)), " Args! "},
	{let(n(1), bind("a", clause(body(n(1))))), " Binds! Args! "}, {cases(n(1), alt(pany(), body(n(1)))), " Alts! Args! "},
	{pany(), " "}, {pvar("x"), " Name! "}, {pint(1), " N "}, {pcon("C", pany()), " Name! Args "},
	{tvar("a"), " Name! "}, {tcon("C", tvar("a")), " Name! Args "}, {fun(tvar("a"), tvar("b")), " Args! "},
	{data("D", "a", constr("C")), " Name! Params Cons! "}, {constr("C", tvar("a")), " Name! Fields "}, {api.Fix{Op: "+", Assoc: 1, Level: 1}, " Op! Assoc Level "},
	{bind("a", clause(body(n(1)))), " Name! Clauses! "}, {clause(body(n(1)), pany()), " Pats Rhs! "}, {alt(pany(), body(n(1))), " Pat! Rhs! "},
}

// something is a value of a type that would do in its place.
func something(ty reflect.Type) reflect.Value {
	for _, x := range []any{"x", 1, int64(1), []string{"x"}, []api.Expr{n(1)}, []api.Pat{pany()}, []api.Type{tvar("a")}, []api.Alt{alt(pany(), body(n(1)))}, []api.Bind{bind("a", clause(body(n(1))))}} {
		if reflect.TypeOf(x) == ty {
			return reflect.ValueOf(x)
		}
	}
	panic(ty.String())
}

// P7.1: fields that are not named for a kind are zero, and those that are named are there; places are not looked at.

func TestFields(t *testing.T) {
	for _, f := range fieldsOf {
		is(t, f.x, true)
		ty := reflect.TypeOf(f.x)
		for i := range ty.NumField() {
			field := ty.Field(i)
			x := reflect.New(ty).Elem()
			x.Set(reflect.ValueOf(f.x))
			switch {
			case field.Name == "At":
				x.Field(i).Set(reflect.ValueOf(api.Pos{Line: 3, Col: -4}))
				is(t, x.Interface(), true)
			case field.Name == "Kind":
				for _, kind := range []int64{-1, 0, 9, 99} {
					x.Field(i).SetInt(kind)
					is(t, x.Interface(), false)
				}
			case strings.Contains(f.named, " "+field.Name+"! "):
				x.Field(i).SetZero()
				is(t, x.Interface(), false)
			case strings.Contains(f.named, " "+field.Name+" "):
				x.Field(i).SetZero()
				is(t, x.Interface(), true)
			default:
				x.Field(i).Set(something(field.Type))
				is(t, x.Interface(), false)
			}
			if field.Type.Kind() == reflect.Slice {
				x.Set(reflect.ValueOf(f.x))
				if x.Field(i).Len() == 0 {
					x.Field(i).Set(reflect.MakeSlice(field.Type, 0, 3))
					is(t, x.Interface(), true)
				}
			}
		}
	}
}

// P7.1: how many of each there must be.

func TestHowMany(t *testing.T) {
	x, g := body(n(1)), guard(n(1), n(2))
	with := func(kind, args int, e api.Expr) api.Expr {
		e.Kind = kind
		for range args {
			e.Args = append(e.Args, n(1))
		}
		return e
	}
	for args := range 5 {
		is(t, with(api.EVar, args, api.Expr{Name: "x"}), args == 0)
		is(t, with(api.ECon, args, api.Expr{Name: "C"}), args == 0)
		is(t, with(api.EInt, args, api.Expr{}), args == 0)
		is(t, with(api.EApp, args, api.Expr{}), args == 2)
		is(t, with(api.ELam, args, api.Expr{Params: []string{"x", "_"}}), args == 1)
		is(t, with(api.ELet, args, api.Expr{Binds: []api.Bind{bind("a", clause(x)), bind("b", clause(x))}}), args == 1)
		is(t, with(api.ECase, args, api.Expr{Alts: []api.Alt{alt(pany(), x), alt(pany(), x)}}), args == 1)
		is(t, with(api.EIf, args, api.Expr{}), args == 3)
		ty := api.Type{Kind: api.KFun}
		for range args {
			ty.Args = append(ty.Args, tvar("a"))
		}
		is(t, ty, args == 2)
	}
	two := api.Rhs{Guard: []api.Expr{n(1), n(2)}, Body: n(3)}
	for _, l := range [][]api.Rhs{nil, {x, x}, {x, g}, {g, x}, {g, x, g}, {two}, {g, two}, {two, g}} {
		is(t, api.Clause{Rhs: l}, false)
		is(t, alt(pany(), l...), false)
	}
	for _, l := range [][]api.Rhs{{x}, {g}, {g, g}, {g, g, g}} {
		is(t, api.Clause{Rhs: l}, true)
		is(t, alt(pany(), l...), true)
	}
	a, b, plus := bind("a", clause(x), clause(x, pany())), bind("b", clause(x)), bind("+", clause(x))
	for _, l := range [][]api.Bind{{a, a}, {a, b, b}, {a, a, b}, {plus, plus}, {a, b, a, a}, {bind("a")}, {a, bind("b")}} {
		is(t, api.Program{Binds: l}, false)
		is(t, let(n(1), l...), false)
	}
	for _, l := range [][]api.Bind{{a}, {a, b}, {a, b, a}, {a, plus, a, plus}} {
		is(t, api.Program{Binds: l}, true)
		is(t, let(n(1), l...), true)
	}
	for assoc := -2; assoc < 6; assoc++ {
		for level := -2; level < 13; level++ {
			is(t, api.Fix{Op: "+", Assoc: assoc, Level: level}, 0 <= assoc && assoc <= 2 && 0 <= level && level <= 9)
		}
	}
	is(t, api.Fix{Op: "+", Assoc: math.MinInt, Level: math.MaxInt}, false)
	twice := api.Program{Datas: []api.Data{data("D", "a a", constr("C"), constr("C")), data("D", "", constr("C"))}, Fixes: []api.Fix{{Op: "+"}, {Op: "+"}}}
	is(t, twice, true)
}
