package scope_test

import (
	"reflect"
	"slices"
	"strings"
	"testing"

	"changeling/api"
	"changeling/parse"
	"changeling/scope"
	"changeling/show"
)

// datas are the data types that sources of tests have, in one line.
const datas = "data L a = N | C a (L a); data P a b = P a b; data U = U\n"

func at(line, col int) api.Pos { return api.Pos{Line: line, Col: col} }

func read(t *testing.T, src string) api.Program {
	t.Helper()
	p, f := parse.Program(src)
	if f != (api.Fault{}) {
		t.Fatalf("%q: %v", src, f)
	}
	return p
}

func readExpr(t *testing.T, src string) api.Expr {
	t.Helper()
	e, f := parse.Expr(src, nil)
	if f != (api.Fault{}) {
		t.Fatalf("%q: %v", src, f)
	}
	return e
}

// check asks for the fault of a source, the data types standing in a line ahead of it.
func check(t *testing.T, src string, err api.Errno, place api.Pos) {
	t.Helper()
	if place.Line > 0 {
		place.Line++
	}
	if f := scope.Check(read(t, datas+src)); f != (api.Fault{Err: err, At: place}) {
		t.Errorf("%q: %v, not %v at %v", src, f, err, place)
	}
}

func fine(t *testing.T, sources ...string) {
	t.Helper()
	for _, src := range sources {
		check(t, src, api.OK, api.Pos{})
	}
}

// P9.1

func TestExamples(t *testing.T) {
	for src, want := range map[string]api.Fault{
		"f x = y":     {Err: api.ErrNone, At: at(1, 7)},
		"f x x = 1":   {Err: api.ErrTwice, At: at(1, 5)},
		"(+) a b = a": {Err: api.ErrPrim, At: at(1, 2)},
		"":            {},
	} {
		if f := scope.Check(read(t, src)); f != want {
			t.Errorf("%q: %v, not %v", src, f, want)
		}
	}
}

func TestWhatMayNotBe(t *testing.T) {
	one := api.Expr{Kind: api.EInt, N: 1}
	rhs := []api.Rhs{{Body: one}}
	bind := func(name string, c ...api.Clause) api.Bind {
		return api.Bind{Name: name, Clauses: c, At: at(3, 4)}
	}
	program := func(e api.Expr) api.Program {
		return api.Program{Binds: []api.Bind{bind("f", api.Clause{Rhs: []api.Rhs{{Body: e}}})}}
	}
	for _, p := range []api.Program{
		{Binds: []api.Bind{bind("f")}},
		{Binds: []api.Bind{bind("", api.Clause{Rhs: rhs})}},
		{Binds: []api.Bind{bind("F", api.Clause{Rhs: rhs})}},
		{Binds: []api.Bind{bind("f", api.Clause{})}},
		{Binds: []api.Bind{bind("f", api.Clause{Rhs: rhs}), bind("f", api.Clause{Rhs: rhs})}},
		{Binds: []api.Bind{bind("f", api.Clause{Rhs: rhs, Pats: []api.Pat{{}}})}},
		{Datas: []api.Data{{Name: "D"}}}, {Datas: []api.Data{{Name: "Int", Cons: []api.Constr{{Name: "C", Fields: []api.Type{{Kind: api.KFun}}}}, At: at(1, 1)}}},
		{Fixes: []api.Fix{{Op: "x"}}}, {Fixes: []api.Fix{{Op: "+", Level: 10}, {Op: "+"}}},
		program(api.Expr{}), program(api.Expr{Kind: api.EVar, Name: "X", At: at(1, 1)}), program(api.Expr{Kind: api.EApp}), program(api.Expr{Kind: api.ELam, Args: []api.Expr{one}}), program(api.Expr{Kind: 9}),
		program(api.Expr{Kind: api.ELet, Args: []api.Expr{one}}), program(api.Expr{Kind: api.ECase, Args: []api.Expr{one}}), program(api.Expr{Kind: api.EVar, Name: "_"}), program(api.Expr{Kind: api.EIf}),
		program(api.Expr{Kind: api.ELam, Params: []string{"+"}, Args: []api.Expr{one}}),
	} {
		if show.Right(p) {
			t.Errorf("%v may be", p)
		}
		if f := scope.Check(p); f != (api.Fault{Err: api.ErrArg}) {
			t.Errorf("%v, not ErrArg, of %v", f, p)
		}
	}
}

func TestFaultsOfDatas(t *testing.T) {
	check(t, "data L = M", api.ErrTwice, at(1, 6))
	check(t, "data M a a = M", api.ErrTwice, at(1, 6))
	check(t, "data M = True", api.ErrTwice, at(1, 10))
	check(t, "data M = M a", api.ErrNone, at(1, 10))
	check(t, "data M = O Int | M (L Int Int)", api.ErrArity, at(1, 18))
	// Ahead of all else.
	check(t, "infixl 1 !; infixl 1 !\n(+) = x\ndata M = M X", api.ErrNone, at(3, 10))
}

func TestWaysOfBindingToldTwice(t *testing.T) {
	fine(t, "infixl 1 !; infixl 1 ?; infixl 1 +; infixr 1 -")
	check(t, "infixl 1 !; infixl 1 !", api.ErrTwice, at(1, 22))
	check(t, "infixl 1 !\ninfix 2 ?\ninfixr 9 !\ninfixl 1 ?", api.ErrTwice, at(3, 10))
	check(t, "infixl 1 ?; infix 2 ?; infixr 9 ?", api.ErrTwice, at(1, 21))
	check(t, "infixl 1 +; infixl 1 +", api.ErrTwice, at(1, 22))
	// Ahead of bindings.
	check(t, "(+) = x\ninfixl 1 ?; infix 2 ?", api.ErrTwice, at(2, 21))
	check(t, "f = x\ninfixl 1 ?; infix 2 ?", api.ErrTwice, at(2, 21))
}

func TestNamesOfBindings(t *testing.T) {
	fine(t, "f = 1", "f = g; g = f", "(!) a b = a", "f x = 1; g x = 2; h f g = f g")
	for _, op := range []string{"+", "-", "*", "/", "%", "==", "/=", "<", "<=", ">", ">="} {
		check(t, "f x = 1; ("+op+") a b = a", api.ErrPrim, at(1, 11))
		check(t, "f x = let { g = 1; ("+op+") = 1 } in g", api.ErrPrim, at(1, 21))
	}
	fine(t, "(=>) a b = 1; (&&) = 2; (.) x = 3; (++) a b = a; (<->) = 1")
	check(t, "f = 1; g = 2; f = 3", api.ErrTwice, at(1, 15))
	check(t, "f 1 = 1\ng = 2\nh = 3\ng = 5\nf x = 2", api.ErrTwice, at(4, 1))
	check(t, "(!) a = 1; g = 1; (!) b = 1", api.ErrTwice, at(1, 20))
	check(t, "f = let { a = 1; b = 2; a = 3 } in 1", api.ErrTwice, at(1, 25))
	// All names ahead of all that is in bindings.
	check(t, "f x x = y\ng = 1\nf = 2", api.ErrTwice, at(3, 1))
	check(t, "f x x = y\ng = 1\n(+) = 2", api.ErrPrim, at(3, 2))
	check(t, "f = x; (+) = 2; g = 1; f = 1", api.ErrPrim, at(1, 9))
	check(t, "f = x; h = 2; f = 1; (+) = 1", api.ErrTwice, at(1, 15))
	check(t, "(+) = 2; g = 1; (+) = 1", api.ErrPrim, at(1, 2))
	check(t, "f = let { a = x; b = 2; a = 3 } in 1", api.ErrTwice, at(1, 25))
	// But bindings within others are looked at where they stand.
	check(t, "f = x\ng = let { a = 1; b = 2; a = 3 } in 1", api.ErrNone, at(1, 5))
	// The same name may be bound again further in.
	fine(t, "f = let { f = 1; g = f } in f; g = 2", "f x = let { x = 1 } in let { x = x } in x", "f = let { x = let { x = 1 } in x } in x")
}

func TestClausesOfOneName(t *testing.T) {
	fine(t, "f 1 = 1\nf 2 = 2\nf x = 3", "f 1 x = 1\nf x 2 = 2", "(!) 1 = 1\n(!) x = 2", "f = let { g 1 = 1; g 2 = 2 } in g")
	check(t, "f = 1\nf = 2", api.ErrTwice, at(1, 1))
	check(t, "h = 1\nf = 1\nf = 2\nf = 3", api.ErrTwice, at(2, 1))
	check(t, "f = 1\nf x = 2", api.ErrTwice, at(1, 1))
	check(t, "(!) = 1\n(!) x = 2", api.ErrTwice, at(1, 2))
	check(t, "f x = 1\nf = 2", api.ErrArity, at(1, 1))
	check(t, "f 0 = 1\nf x y = 2", api.ErrArity, at(1, 1))
	check(t, "g = 1\nf 0 1 = 1\nf x y = 2\nf x = 1", api.ErrArity, at(2, 1))
	check(t, "f = let { g = 1; g = 2 } in g", api.ErrTwice, at(1, 11))
	check(t, "f = let { g x = 1; g = 2 } in g", api.ErrArity, at(1, 11))
	// Ahead of what is in the binding, but behind those ahead.
	check(t, "f x x = 1\nf = y", api.ErrArity, at(1, 1))
	check(t, "f = y\nf x x = 1", api.ErrTwice, at(1, 1))
	check(t, "g = y\nf = 1\nf = 2", api.ErrNone, at(1, 5))
	check(t, "f x = z\nf X = y\nf 1 2 = 3", api.ErrArity, at(1, 1))
	// Patterns count by themselves, whatever is in them.
	check(t, "f (C x y) = 1\nf x y = 1", api.ErrArity, at(1, 1))
}

func TestPatterns(t *testing.T) {
	fine(t, "f N (C x (C y N)) (P z _) U True False = x", "f _ _ _ = 1", "f 1 1 (-1) = 1", "f x = case x of { C x _ -> x; P x y -> y; _ -> x }", "f N N = 1")
	// Constructors.
	check(t, "f X = 1", api.ErrNone, at(1, 3))
	check(t, "f (C x X) = 1", api.ErrNone, at(1, 8))
	check(t, "f L = 1", api.ErrNone, at(1, 3))
	check(t, "f Int = 1", api.ErrNone, at(1, 3))
	check(t, "f (X Y) = 1", api.ErrNone, at(1, 4))
	check(t, "f (C x) = 1", api.ErrArity, at(1, 4))
	check(t, "f (C x y z) = 1", api.ErrArity, at(1, 4))
	check(t, "f C = 1", api.ErrArity, at(1, 3))
	check(t, "f (N x) = 1", api.ErrArity, at(1, 4))
	check(t, "f (True x) = 1", api.ErrArity, at(1, 4))
	check(t, "f (C (C x) X) = 1", api.ErrArity, at(1, 7))
	// Each ahead of its Args, from the left.
	check(t, "f (C X) = 1", api.ErrArity, at(1, 4))
	check(t, "f (C X (C x)) = 1", api.ErrNone, at(1, 6))
	check(t, "f x (C x (P X)) Y = 1", api.ErrTwice, at(1, 8))
	check(t, "f (C x N) (N x) x = 1", api.ErrArity, at(1, 12))
	check(t, "f (C (P x X) x) = 1", api.ErrNone, at(1, 11))
	check(t, "f (C (P x y) x) X = 1", api.ErrTwice, at(1, 14))
	// Variables.
	check(t, "f x y z y x = 1", api.ErrTwice, at(1, 9))
	check(t, "f (C x (C y x)) = 1", api.ErrTwice, at(1, 13))
	check(t, "f (C x y) (C y x) = 1", api.ErrTwice, at(1, 14))
	check(t, "f x = case x of { P y y -> 1 }", api.ErrTwice, at(1, 23))
	check(t, "f x = case x of { P y x -> 1; P z z -> 2 }", api.ErrTwice, at(1, 35))
	check(t, "f = let { g a b a = 1 } in 1", api.ErrTwice, at(1, 17))
	fine(t, "f f = f", "f x = 1\nf x = 2", "f (P a _) = 1\nf (P _ a) = 2", "f x = let { g x = x; h x = x } in x", "f x = case x of { x -> case x of { x -> x } }")
	// A clause's patterns ahead of its bodies, but behind the bodies of those ahead.
	check(t, "f x X = y", api.ErrNone, at(1, 5))
	check(t, "f x = y\nf X = 2", api.ErrNone, at(1, 7))
	check(t, "f x = 1\nf (C x x) = y", api.ErrTwice, at(2, 8))
	check(t, "f x = case x of { x -> y; X -> 1 }", api.ErrNone, at(1, 24))
	check(t, "f x = case x of { X -> y; x -> z }", api.ErrNone, at(1, 19))
}

func TestBodies(t *testing.T) {
	fine(t, "f x | x < 1 = x | x == 2 = 1", "f x | x = x | f x = 1 | True = 2", "f = case 1 of { x | x < 1 -> x | True -> 2 }")
	check(t, "f x | y = z", api.ErrNone, at(1, 7))
	check(t, "f x | x = z | y = x", api.ErrNone, at(1, 11))
	check(t, "f x | x = x | y = z", api.ErrNone, at(1, 15))
	check(t, "f x | x = x | x = z", api.ErrNone, at(1, 19))
	check(t, "f = case 1 of { x | y -> z }", api.ErrNone, at(1, 21))
	check(t, "f = case 1 of { x | x -> z | y -> 1 }", api.ErrNone, at(1, 26))
	// A clause's variables are in its bodies and guards, in no other clause's.
	check(t, "f 1 x = x\nf y 2 = x", api.ErrNone, at(2, 9))
	check(t, "f 1 x = 1\nf y 2 | x = 1", api.ErrNone, at(2, 9))
	check(t, "f x = 1; g = x", api.ErrNone, at(1, 14))
	check(t, "f = case 1 of { x -> 1; y -> x }", api.ErrNone, at(1, 30))
	check(t, "f = case 1 of { x -> 1; y | x -> 1 }", api.ErrNone, at(1, 29))
	check(t, "f = case x of { x -> x }", api.ErrNone, at(1, 10))
	check(t, "f = g (case 1 of { x -> x }) x", api.ErrNone, at(1, 5))
	check(t, "f = f (case 1 of { x -> x }) x", api.ErrNone, at(1, 30))
}

func TestExpressions(t *testing.T) {
	fine(t, "f = f + 1 - 2 * 3 / 4 % 5 == 6", "f = (+) (-) (*) (/) (%) (==) (/=) (<) (<=) (>) (>=)", "f = C 1 N", "f = P True False", "f = if True then U else N", "f = \\x _ y _ -> x y", "(!) a b = a ! b",
		"f = let { a = b; b = a } in a b", "f = let { a = 1 } in let { b = a } in a b f", "f = \\f -> f", "f = \\x -> \\x -> x", "f x = \\x -> let { x = x } in case x of { x -> x }", "f = let { (!) a b = a } in 1 ! 2")
	// Names.
	check(t, "f = x", api.ErrNone, at(1, 5))
	check(t, "f = 1 ! 2", api.ErrNone, at(1, 7))
	check(t, "f = (!)", api.ErrNone, at(1, 6))
	check(t, "f = (++) 1", api.ErrNone, at(1, 6))
	check(t, "f = F", api.ErrNone, at(1, 5))
	check(t, "f = L", api.ErrNone, at(1, 5))
	check(t, "f = Int", api.ErrNone, at(1, 5))
	check(t, "f = C a", api.ErrNone, at(1, 7))
	// `_` is no name.
	fine(t, "f _ _ = \\_ _ -> let { _a = 1 } in _a")
	check(t, "f _ = \\_ -> _a", api.ErrNone, at(1, 13))
	// Params.
	check(t, "f = f (\\x x -> y)", api.ErrTwice, at(1, 8))
	check(t, "f = \\_ x _ y x -> 1", api.ErrTwice, at(1, 5))
	check(t, "f = f (\\x -> x) x", api.ErrNone, at(1, 17))
	check(t, "f = \\x -> y", api.ErrNone, at(1, 11))
	check(t, "f = \\x -> \\y y -> 1", api.ErrTwice, at(1, 11))
	// Bindings within.
	check(t, "f = f (let { a = 1 } in a) a", api.ErrNone, at(1, 28))
	check(t, "f = let { a = let { b = 1 } in b } in b", api.ErrNone, at(1, 39))
	check(t, "f = let { a x = 1; b = x } in 1", api.ErrNone, at(1, 24))
	check(t, "f = let { a = x } in y", api.ErrNone, at(1, 15))
	check(t, "f = let { a = a } in y", api.ErrNone, at(1, 22))
	check(t, "f = let { g = 1 } in 1\nh = g", api.ErrNone, at(2, 5))
	check(t, "f = let { a = let { b = y } in x; b b = z b } in v", api.ErrNone, at(1, 25))
	// The others, from the left.
	check(t, "f = if x then y else z", api.ErrNone, at(1, 8))
	check(t, "f = if 1 then y else z", api.ErrNone, at(1, 15))
	check(t, "f = if 1 then 2 else z", api.ErrNone, at(1, 22))
	check(t, "f = case x of { X -> y }", api.ErrNone, at(1, 10))
	check(t, "f = x y z", api.ErrNone, at(1, 5))
	check(t, "f = f y z", api.ErrNone, at(1, 7))
	check(t, "f = f (X 1) z", api.ErrNone, at(1, 8))
	// An operator stands ahead of both of its Args.
	check(t, "f = x ! y", api.ErrNone, at(1, 7))
	check(t, "f = x + y", api.ErrNone, at(1, 5))
	check(t, "f = 1 + y", api.ErrNone, at(1, 9))
	check(t, "f = x + (y ! z)", api.ErrNone, at(1, 5))
	// Binding by binding.
	check(t, "f = 1\ng = x\nh = y", api.ErrNone, at(2, 5))
}

// Places are the parts' own, whatever they are.
func TestPlaces(t *testing.T) {
	e := func(line int) api.Expr { return api.Expr{Kind: api.EVar, Name: "x", At: at(line, 1<<40)} }
	bind := func(name string, pats ...api.Pat) api.Bind {
		return api.Bind{Name: name, Clauses: []api.Clause{{Pats: pats, Rhs: []api.Rhs{{Body: e(-9)}}}}, At: at(-5, 0)}
	}
	for _, c := range []struct {
		p    api.Program
		want api.Fault
	}{
		{api.Program{Binds: []api.Bind{bind("f")}}, api.Fault{Err: api.ErrNone, At: at(-9, 1<<40)}},
		{api.Program{Binds: []api.Bind{bind("f", api.Pat{Kind: api.PCon, Name: "X", At: at(-3, 7)})}}, api.Fault{Err: api.ErrNone, At: at(-3, 7)}},
		{api.Program{Binds: []api.Bind{bind("+")}}, api.Fault{Err: api.ErrPrim, At: at(-5, 0)}},
		{api.Program{Fixes: []api.Fix{{Op: "!", At: at(1, 1)}, {Op: "!", Assoc: api.FixLeft, At: at(0, 3)}}}, api.Fault{Err: api.ErrTwice, At: at(0, 3)}},
	} {
		if f := scope.Check(c.p); f != c.want {
			t.Errorf("%v, not %v", f, c.want)
		}
	}
}

// P9.2

func names(l ...string) []string { return l }

func sameNames(t *testing.T, of any, got, want []string) {
	t.Helper()
	if !slices.Equal(got, want) {
		t.Errorf("%q, not %q, of %v", got, want, of)
	}
}

func TestFree(t *testing.T) {
	for src, want := range map[string]string{
		"\\x -> x + y z": "+ y z",
		"x":              "x", "(+)": "+", "(!)": "!", "C": "", "1": "", "C 1 N": "", "f x C": "f x", "f x f x": "f x",
		// As it is written: an operator between its operands.
		"x + y": "x + y", "(x + y) * (z - x)": "x + y * z -", "x + (y ! z)": "x + y ! z", "(+) x": "+ x", "(+) x y": "x + y", "(+) x y z": "x + y z", "f (+) x": "f + x",
		"f x + g y": "f x + g y", "(x ! y) z ! v": "x ! y z v", "(f x) y z": "f x y z", "f (g x) (h y)": "f g x h y", "C x y": "x y", "1 x y": "x y", "(!) (x ! y) z": "x ! y z",
		// What is bound.
		"\\x -> x": "", "\\x _ -> x y": "y", "\\x -> \\y -> x y z": "z", "(\\x -> x) x": "x", "(\\x -> x) y x": "y x", "\\x -> (\\x -> x) x": "", "\\_ -> _a": "_a",
		"let { a = b; b = a } in a b c": "c", "let { a = a } in b a": "b", "let { f x = x y; g _ = x } in f z": "y x z", "(let { a = 1 } in a) a": "a", "let { a = (let { b = 1 } in b) b } in a": "b",
		"let { (!) a b = a ! c } in x ! y": "c x y", "let { (+) a b = a } in 1 + x": "x", "(let { (+) a b = a } in 1 + x) + 1": "x +",
		"let { f 1 x = x a; f y 2 = x y } in b": "a x b", "let { f x | x = y | z = x } in f": "y z",
		"case x of { y -> y z; C z y -> z y v; _ -> y }":    "x z v y",
		"case f x of { x | x -> x y | z -> x; _ | a -> b }": "f x y z a b", "(case 1 of { x -> x }) x": "x", "case x of { x -> x }": "x",
		"if x then y else z": "x y z", "if C then x else x + (\\y -> y) y": "x + y",
	} {
		sameNames(t, src, scope.Free(readExpr(t, src)), strings.Fields(want))
	}
}

func TestVars(t *testing.T) {
	for src, want := range map[string]string{
		"x": "x", "_": "", "1": "", "(-1)": "", "C": "", "C x": "x", "C x y z": "x y z", "C (D y (E x)) _ z": "y x z", "C z (D _) 1 (E x _ y)": "z x y", "_x": "_x",
		"C x (D x)": "x x",
	} {
		p := readExpr(t, "case 1 of { "+src+" -> 1 }").Alts[0].Pat
		sameNames(t, src, scope.Vars(p), strings.Fields(want))
	}
}

func TestUses(t *testing.T) {
	for src, want := range map[string]string{
		"f x = x": "", "f x = y": "y", "f = f": "f", "f x = f (x + 1)": "f +", "f f = f": "", "f f = f\nf 1 = f g": "f g", "f x = y\nf y = x": "y x", "f 1 = g\nf 2 = h\nf 3 = g": "g h",
		"(!) a b = b ! a": "!", "(!) a b = a + c": "+ c", "f x | g x = x | h = y": "g h y", "f = let { f = 1 } in f": "", "f = (let { f = 1 } in f) f": "f", "f (C x (D y)) = x y z": "z",
		"(+) a = a + b": "+ b", "f = 1": "", "f = C": "",
	} {
		sameNames(t, src, scope.Uses(read(t, src).Binds[0]), strings.Fields(want))
	}
}

func TestNothingOfWhatMayNotBe(t *testing.T) {
	x, y := api.Expr{Kind: api.EVar, Name: "x"}, api.Pat{Kind: api.PVar, Name: "y"}
	for _, e := range []api.Expr{
		{}, {Kind: api.EVar}, {Kind: api.EVar, Name: "X"}, {Kind: api.EVar, Name: "_"}, {Kind: api.EVar, Name: "x", N: 1}, {Kind: 9, Args: []api.Expr{x}}, {Kind: api.EApp, Args: []api.Expr{x}}, {Kind: api.EApp, Args: []api.Expr{x, x, x}},
		{Kind: api.EApp}, {Kind: api.ELam, Args: []api.Expr{x}}, {Kind: api.ELet, Args: []api.Expr{x}}, {Kind: api.ECase, Args: []api.Expr{x}}, {Kind: api.EIf, Args: []api.Expr{x, x}}, {Kind: api.EApp, Args: []api.Expr{x, {Kind: api.EApp, Args: []api.Expr{x}}}},
		{Kind: api.EApp, Args: []api.Expr{{Kind: api.EApp}, x}},
	} {
		sameNames(t, e, scope.Free(e), nil)
		b := api.Bind{Name: "f", Clauses: []api.Clause{{Rhs: []api.Rhs{{Body: x}, {Body: e}}}}}
		sameNames(t, b, scope.Uses(b), nil)
		b = api.Bind{Name: "f", Clauses: []api.Clause{{Rhs: []api.Rhs{{Body: x}}}, {Rhs: []api.Rhs{{Body: e}}}}}
		sameNames(t, b, scope.Uses(b), nil)
	}
	for _, p := range []api.Pat{{}, {Kind: api.PVar}, {Kind: api.PVar, Name: "X"}, {Kind: api.PVar, Name: "+"}, {Kind: api.PVar, Name: "x", N: 1}, {Kind: api.PVar, Name: "x", Args: []api.Pat{y}}, {Kind: api.PAny, Args: []api.Pat{y}}, {Kind: 9, Args: []api.Pat{y}},
		{Kind: api.PCon, Args: []api.Pat{y}}, {Kind: api.PCon, Name: "C", Args: []api.Pat{y, {}}}} {
		sameNames(t, p, scope.Vars(p), nil)
		b := api.Bind{Name: "f", Clauses: []api.Clause{{Pats: []api.Pat{p}, Rhs: []api.Rhs{{Body: x}}}}}
		sameNames(t, b, scope.Uses(b), nil)
	}
	for _, b := range []api.Bind{{}, {Name: "f"}, {Name: "f", Clauses: []api.Clause{{}}}, {Name: "F", Clauses: []api.Clause{{Rhs: []api.Rhs{{Body: x}}}}}, {Clauses: []api.Clause{{Rhs: []api.Rhs{{Body: x}}}}}} {
		sameNames(t, b, scope.Uses(b), nil)
	}
	// What may be may have faults.
	sameNames(t, "faults", scope.Uses(read(t, "f x x = y\nf = X z").Binds[0]), names("y", "z"))
	sameNames(t, "faults", scope.Free(readExpr(t, "let { a = b; c = d; a x = e } in \\y y -> X y z")), names("b", "d", "e", "z"))
}

// What is handed in is not changed, what is answered is new.
func TestNothingIsSharedOrChanged(t *testing.T) {
	const src = datas + "infixl 1 !\nf (C x y) z | x = \\a _ -> case y of { P b c -> let { g d = e } in d ! z; _ -> a }\nf 1 2 = if True then (-1) else x"
	p, want := read(t, src), read(t, src)
	for range 2 {
		scope.Check(p)
		for _, l := range [][]string{scope.Uses(p.Binds[0]), scope.Free(p.Binds[0].Clauses[0].Rhs[0].Body), scope.Vars(p.Binds[0].Clauses[0].Pats[0])} {
			if len(l) < 2 {
				t.Error(l)
			}
			for i := range l {
				l[i] = "spoilt"
			}
		}
		sameNames(t, src, scope.Uses(p.Binds[0]), names("e", "d", "!", "x"))
		if !reflect.DeepEqual(p, want) {
			t.Error(p)
		}
	}
}

// P1

// deep is an expression with so many parts nested in one another.
func deep(n int, within func(api.Expr) api.Expr) api.Expr {
	e := api.Expr{Kind: api.EVar, Name: "x", At: at(7, 7)}
	for range n {
		e = within(e)
	}
	return e
}

func TestDeepExpressions(t *testing.T) {
	one := api.Expr{Kind: api.EInt, N: 1}
	let := func(guard []api.Expr, body api.Expr, e api.Expr) api.Expr {
		return api.Expr{Kind: api.ELet, Args: []api.Expr{e}, Binds: []api.Bind{{Name: "y", Clauses: []api.Clause{{Rhs: []api.Rhs{{Guard: guard, Body: body}}}}}}}
	}
	for _, within := range []func(api.Expr) api.Expr{
		func(e api.Expr) api.Expr { return api.Expr{Kind: api.EApp, Args: []api.Expr{e, one}} },
		func(e api.Expr) api.Expr { return api.Expr{Kind: api.EApp, Args: []api.Expr{one, e}} },
		func(e api.Expr) api.Expr { return api.Expr{Kind: api.EIf, Args: []api.Expr{one, e, one}} },
		func(e api.Expr) api.Expr {
			return api.Expr{Kind: api.ELam, Params: []string{"y", "z"}, Args: []api.Expr{e}}
		},
		func(e api.Expr) api.Expr {
			return api.Expr{Kind: api.ECase, Args: []api.Expr{one}, Alts: []api.Alt{{Pat: api.Pat{Kind: api.PVar, Name: "y"}, Rhs: []api.Rhs{{Body: e}}}}}
		},
		func(e api.Expr) api.Expr { return let([]api.Expr{e}, one, one) },
		func(e api.Expr) api.Expr { return let(nil, e, one) },
		func(e api.Expr) api.Expr { return let(nil, one, e) },
	} {
		e := deep(1<<16, within)
		sameNames(t, "much", scope.Free(e), names("x"))
		b := api.Bind{Name: "f", Clauses: []api.Clause{{Rhs: []api.Rhs{{Body: e}}}}}
		sameNames(t, "much", scope.Uses(b), names("x"))
		if f := scope.Check(api.Program{Binds: []api.Bind{b}}); f != (api.Fault{Err: api.ErrNone, At: at(7, 7)}) {
			t.Error(f)
		}
	}
	p := api.Pat{Kind: api.PVar, Name: "x"}
	for range 1 << 16 {
		p = api.Pat{Kind: api.PCon, Name: "C", Args: []api.Pat{p}}
	}
	sameNames(t, "much", scope.Vars(p), names("x"))
}
