package infer_test

import (
	"fmt"
	"reflect"
	"slices"
	"strings"
	"testing"

	"changeling/api"
	"changeling/deriv"
	"changeling/infer"
	"changeling/parse"
	"changeling/scope"
	"changeling/show"
	"changeling/unify"
)

// datas are declared ahead of most sources here, in one line.
const datas = "data L a = N | C a (L a); data P a b = P a b; data F a b = F (a -> b); data E a = E; "

func same(t *testing.T, what, got, want any) {
	t.Helper()
	if !reflect.DeepEqual(got, want) {
		t.Errorf("%v: %v, not %v", what, got, want)
	}
}

func at(line, col int) api.Pos { return api.Pos{Line: line, Col: col} }

// program is what a source says behind the data types; its first line stands behind a line of their own.
func program(t *testing.T, src string) api.Program {
	t.Helper()
	p, f := parse.Program(datas + "\n" + src)
	if f.Err != api.OK {
		t.Fatal(f, src)
	}
	return p
}

// written is a type with letters for its variables.
func written(ty api.Type) string {
	var named func(api.Type) api.Type
	named = func(ty api.Type) api.Type {
		if ty.Kind == api.KVar {
			return api.Type{Kind: api.KVar, Name: "v" + fmt.Sprint(ty.N)}
		}
		ty.Args = slices.Clone(ty.Args)
		for i, a := range ty.Args {
			ty.Args[i] = named(a)
		}
		return ty
	}
	return show.Type(named(ty))
}

func bindNames(l []api.Bind) []string {
	var all []string
	for _, b := range l {
		all = append(all, b.Name)
	}
	return all
}

// schemes are a program's schemes, as a text, once it is known that its derivation is right.
func schemes(t *testing.T, p api.Program) string {
	t.Helper()
	d, f := infer.Program(p)
	if f != (api.Fault{}) {
		t.Fatal(f, show.Program(p))
	}
	if err := deriv.Check(p, d); err != api.OK {
		t.Errorf("%v of\n%s", err, show.Program(p))
	}
	l, f := infer.Schemes(p)
	if f != (api.Fault{}) || len(l) != len(p.Binds) {
		t.Fatal(f, l)
	}
	var texts []string
	for i, s := range l {
		for n, v := range s.Vars {
			same(t, p.Binds[i].Name, v, n)
		}
		same(t, p.Binds[i].Name, unify.Vars(s.Type), append([]int(nil), s.Vars...))
		same(t, p.Binds[i].Name, written(unify.Rename(s.Type)), written(s.Type))
		texts = append(texts, p.Binds[i].Name+": "+written(s.Type))
	}
	return strings.Join(texts, "; ")
}

// P12.1, P12.2

func TestSchemes(t *testing.T) {
	for _, c := range []struct{ src, want string }{
		{"", ""},
		{"id x = x", "id: v0 -> v0"}, // the document's example
		{"f = 1", "f: Int"},
		{"f = True", "f: Bool"},
		{"k x _ = x", "k: v0 -> v1 -> v0"},
		{"k _ x = x", "k: v0 -> v1 -> v1"},
		{"s f g x = f x (g x)", "s: (v0 -> v1 -> v2) -> (v0 -> v1) -> v0 -> v2"},
		{"f x = f x", "f: v0 -> v1"},
		{"x = x", "x: v0"},
		// Operators.
		{"a = (+); b = (==); c x = x - 1 < 2; (!) x y = x y; d = (!) c", "a: Int -> Int -> Int; b: Int -> Int -> Bool; c: Int -> Bool; !: (v0 -> v1) -> v0 -> v1; d: Int -> Bool"},
		{"a = (*); b = (/); c = (%); d = (/=); e = (<); f = (<=); g = (>); h = (>=)", "a: Int -> Int -> Int; b: Int -> Int -> Int; c: Int -> Int -> Int; d: Int -> Int -> Bool; e: Int -> Int -> Bool; f: Int -> Int -> Bool; g: Int -> Int -> Bool; h: Int -> Int -> Bool"},
		// Constructors.
		{"a = N; b = C; c = P; d = F; e = E; f = C 1; g = P True", "a: L v0; b: v0 -> L v0 -> L v0; c: v0 -> v1 -> P v0 v1; d: (v0 -> v1) -> F v0 v1; e: E v0; f: L Int -> L Int; g: v0 -> P Bool v0"},
		{"a = C N N; b = C (C 1 N) N; c = P N (C True N)", "a: L (L v0); b: L (L Int); c: P (L v0) (L Bool)"},
		// Patterns.
		{"f 0 = True; f n = False", "f: Int -> Bool"},
		{"f N = N; f (C x y) = y", "f: L v0 -> L v0"},
		{"f (P x y) = P y x", "f: P v0 v1 -> P v1 v0"},
		{"f (P (C 1 _) y) = y", "f: P (L Int) v0 -> v0"},
		{"f (F g) x = g x", "f: F v0 v1 -> v0 -> v1"},
		{"f True x = x; f False _ = 1", "f: Bool -> Int -> Int"},
		{"f _ (-3) = E", "f: v0 -> Int -> E v1"},
		{"map f N = N; map f (C x xs) = C (f x) (map f xs)", "map: (v0 -> v1) -> L v0 -> L v1"},
		// Guards.
		{"f x | x = 1 | x == 2 = 3", ""},
		{"f x y | y = x | x < 2 = 3", "f: Int -> Bool -> Int"},
		{"f x y | y = x", "f: v0 -> Bool -> v0"},
		// Lambdas, conditions, cases.
		{"f = \\x -> x", "f: v0 -> v0"},
		{"f = \\x y z -> x z", "f: (v0 -> v1) -> v2 -> v0 -> v1"},
		{"f = \\_ x _ -> x", "f: v0 -> v1 -> v2 -> v1"},
		{"f = \\x -> \\x -> x", "f: v0 -> v1 -> v1"},
		{"f x y z = if x then y else z", "f: Bool -> v0 -> v0 -> v0"},
		{"f x = case x of { N -> 1; C y _ -> y }", "f: L Int -> Int"},
		{"f x y = case x of { P a b | a -> b | b == y -> 1; z -> 2 }", "f: P Bool Int -> Int -> Int"},
		{"f x = case x of x -> x", "f: v0 -> v0"},
		{"f x = case x of { N -> x; C x _ -> x }", ""},
		{"f = case \\x -> x of g -> g 1", "f: Int"},
		// What a pattern or a lambda binds has one type.
		{"f g = P (g 1) (g 2)", "f: (Int -> v0) -> P v0 v0"},
		{"f g = P (g 1) (g True)", ""},
		{"f = case \\x -> x of g -> P (g 1) (g True)", ""},
		// Bindings.
		{"f = let { i x = x } in P (i 1) (i True)", "f: P Int Bool"},
		{"f = let { i x = x } in i i 3", "f: Int"},
		{"f x = let { g y = x } in P (g 1) (g True)", "f: v0 -> P v0 v0"},
		{"f x = let { g y = P x y } in P (g 1) (g True)", "f: v0 -> P (P v0 Int) (P v0 Bool)"},
		{"f x = let { g y = x y } in P (g 1) (g True)", ""},
		{"f x = let { y = x } in y + 1", "f: Int -> Int"},
		{"f x = let { y = x } in P y (x + 1)", "f: Int -> P Int Int"},
		{"f x = let { y = x; g z = y } in P (g 1) (g True)", "f: v0 -> P v0 v0"},
		{"f x = let { y = let { z = x } in z } in P y y", "f: v0 -> P v0 v0"},
		{"f = let { g x = let { h y = x } in h } in P (g 1 True) (g True 1)", "f: P Int Bool"},
		{"f = let { i x = x; j = i i } in P (j 1) (j True)", "f: P Int Bool"},
		{"f = let { x = y; y = x } in P (x 1) (y True)", "f: P v0 v1"},
		{"f = let { e n = if n == 0 then True else o (n - 1); o n = if n == 0 then False else e (n - 1) } in e", "f: Int -> Bool"},
		{"f x = let { x = \\y -> y } in P (x 1) (x True)", "f: v0 -> P Int Bool"},
		{"f x = let { g y = let { h z = P x (P y z) } in P (h 1) (h True) } in g 1", "f: v0 -> P (P v0 (P Int Int)) (P v0 (P Int Bool))"},
		// Names that are hidden by others: what holds variables holds them still.
		{"f = \\x -> let { y = x } in \\x -> let { g = y } in P (g + 1) (g == 1)", "f: Int -> v0 -> P Int Bool"},
		{"f = \\x -> let { y = x } in \\x -> let { g = y } in P (g 1) (g True)", ""},
		{"f = \\x -> let { y = x } in \\x -> let { g = y } in P g (y + 1)", "f: Int -> v0 -> P Int Int"},
		{"f = \\x -> let { y = x } in \\x -> let { g = y } in g", "f: v0 -> v1 -> v0"},
		{"f x = let { y z = x } in \\x -> let { g = y } in P (g 1) (g True)", "f: v0 -> v1 -> P v0 v0"},
		{"f = \\x -> \\x -> let { g y = y } in P (g x) (g 1)", "f: v0 -> v1 -> P v1 Int"},
		// Groups: one type within, a scheme behind.
		{"f x = P (g x) (g 1); g y = y", "f: v0 -> P v0 Int; g: v0 -> v0"},
		{"f x = g x; g y = f 1", "f: Int -> v0; g: Int -> v0"},
		{"f x = g x; g y = P (f y) 1", ""},
		{"f x y = g y x; g x y = f y x", "f: v0 -> v1 -> v2; g: v0 -> v1 -> v2"},
		{"f x y = g y x; g x y = f x y", "f: v0 -> v0 -> v1; g: v0 -> v0 -> v1"},
		{"a x = b (x + 1); b x = c x; c x = a x; d = a 1; e = P (b 2) True", "a: Int -> v0; b: Int -> v0; c: Int -> v0; d: v0; e: P v0 Bool"},
		{"even n = if n == 0 then True else odd (n - 1); odd n = if n == 0 then False else even (n - 1)", "even: Int -> Bool; odd: Int -> Bool"},
		// A binding's use of itself at another type is refused within it, not behind it.
		{"f x = P x (f 1)", ""},
		{"f x = f (f x)", "f: v0 -> v0"},
		{"i x = x; f = i i; g = P (f 1) (f True)", "i: v0 -> v0; f: v0 -> v0; g: P Int Bool"},
	} {
		p := program(t, c.src)
		if c.want == "" && c.src != "" {
			l, f := infer.Schemes(p)
			if f.Err != api.ErrType && f.Err != api.ErrCycle || len(l) > 0 {
				t.Error(c.src, l, f)
			}
			continue
		}
		same(t, c.src, schemes(t, p), c.want)
	}
}

// P12.1

// fault is what is wrong with a program that stands in line 2; it asks Schemes as well.
func fault(t *testing.T, p api.Program) string {
	t.Helper()
	d, f := infer.Program(p)
	l, g := infer.Schemes(p)
	if f != g || f.Err != api.OK && (len(d.Groups) > 0 || len(l) > 0) {
		t.Error(f, g, d, l)
	}
	return fmt.Sprintf("%d at %d, %d", f.Err, f.At.Line, f.At.Col)
}

func TestFaults(t *testing.T) {
	for _, c := range []struct{ src, want string }{
		{"f x = x", "0 at 0, 0"},
		{"f x = x x", "101 at 2, 7"},
		{"f x = x + True", "100 at 2, 9"},
		// Bindings: the binding's place.
		{"f True = 1\nf 2 = 2", "100 at 2, 1"},
		{"f 1 True = 1\nf 2 2 = True", "100 at 2, 1"},
		{"g = let { f True = 1; f 2 = 2 } in f", "100 at 2, 11"},
		{"f (C 1 _) = 1\nf (C N _) = 1", "100 at 2, 1"},
		{"f N = 1\nf E = 1", "100 at 2, 1"},
		// Bodies: the guard's place, the body's.
		{"f x | 1 = 2", "100 at 2, 7"},
		{"f x | x + 1 = 2", "100 at 2, 9"},
		{"f x | x = x\n    | True = 1", "100 at 3, 14"},
		{"f x | x = 1\n    | 2 = 1", "100 at 3, 7"},
		{"f 1 = 1\nf x = True", "100 at 3, 7"},
		{"f x = f", "101 at 2, 7"},
		{"f x = C f N", "101 at 2, 7"},
		{"f N = 1\nf x = f", "100 at 3, 7"},
		{"f x y = f x", "101 at 2, 9"},
		// Patterns: the Arg's place.
		{"f (C True (C 1 N)) = 1", "100 at 2, 12"},
		{"f (C 1 2) = 1", "100 at 2, 8"},
		{"f (P (C 1 (C True N)) x) = 1", "100 at 2, 12"},
		{"f (F 1) = 1", "100 at 2, 6"},
		{"f (F (F x)) = 1", "100 at 2, 7"},
		{"f x = case x of C 1 (C True N) -> 1", "100 at 2, 22"},
		// Expressions: EApp its place, that of what is applied.
		{"f = 1 2", "100 at 2, 5"},
		{"f = True False", "100 at 2, 5"},
		{"f = (\\x -> x + 1) True", "100 at 2, 6"},
		{"f = C 1 2", "100 at 2, 5"},
		{"f x = P x 1 2", "100 at 2, 7"},
		{"f x = C x x", "101 at 2, 7"},
		{"f x y = x y (x y)", "101 at 2, 9"},
		{"f x y = x y (y y)", "101 at 2, 14"},
		{"f x y = x y (y x)", "101 at 2, 14"},
		{"f = True + 1", "100 at 2, 10"},
		{"f = 1 < (2 < 3)", "100 at 2, 7"},
		// EIf: the first one's place, the third one's.
		{"f = if 1 then 2 else 3", "100 at 2, 8"},
		{"f = if True then 2 else False", "100 at 2, 25"},
		{"f x = if True then x else C x N", "101 at 2, 27"},
		{"f x = if True then C x N else x", "101 at 2, 31"},
		{"f x = if x then x else 1", "100 at 2, 24"},
		// ECase: the pattern's place, the body's.
		{"f = case 1 of True -> 1", "100 at 2, 15"},
		{"f = case 1 of { 1 -> 1; N -> 1 }", "100 at 2, 25"},
		{"f = case C 1 N of { C True _ -> 1 }", "100 at 2, 21"},
		{"f = case 1 of { 1 -> 1; 2 -> True }", "100 at 2, 30"},
		{"f x = case 1 of { 1 -> x; 2 -> C x N }", "101 at 2, 32"},
		{"f = case 1 of { x | x -> 1 }", "100 at 2, 21"},
		// The same within ELet, and in its Arg.
		{"f = let { x = 1 2 } in 1", "100 at 2, 15"},
		{"f = let { x = 1 } in x 2", "100 at 2, 22"},
		{"f x = let { y = x } in y y", "101 at 2, 24"},
		{"p = (\\i -> i i 3) (\\x -> x)", "101 at 2, 12"},
	} {
		same(t, c.src, fault(t, program(t, c.src)), c.want)
	}
}

// Of several faults the first one counts.
func TestFirstFault(t *testing.T) {
	for _, c := range []struct{ src, want string }{
		// Groups in their order, members and clauses in theirs.
		{"f = 1 2\ng = 3 4", "100 at 2, 5"},
		{"f = 1 g\ng = 3 4", "100 at 3, 5"},
		{"f = 1 h\ng = 2 4\nh = 5 6", "100 at 3, 5"},
		{"f = 1 g\ng = 3 f", "100 at 2, 5"},
		{"f = 1 2 h\ng = 3 f\nh = 4 g", "100 at 2, 5"},
		{"f 1 = 2 3\nf 2 = 4 5", "100 at 2, 7"},
		{"f 1 = 2\nf True = 4 5", "100 at 2, 1"},
		{"f 1 = 2 3\nf True = 4", "100 at 2, 7"},
		{"f = let { a = 1 b; b = 2 3 } in 4 5", "100 at 2, 24"},
		// Patterns, from the left, ahead of the binding's place and of the bodies; a PCon's Args, each with its field's type.
		{"f (C 1 2) (C 1 3) = 1 2", "100 at 2, 8"},
		{"f N = 1\nf (C 1 2) = 1 2", "100 at 3, 8"},
		{"f 1 = 1\nf True = 1 2", "100 at 2, 1"},
		{"f (C (C 1 2) 3) = 1", "100 at 2, 11"},
		{"f (C 1 (C 1 2)) = 1", "100 at 2, 13"},
		{"f (P (C 1 2) (C 1 3)) = 1", "100 at 2, 11"},
		{"f (C (F 1) (C 1 N)) = 1", "100 at 2, 9"},
		// The guard, then it and Bool, then the body, then the next body.
		{"f | 1 2 = 3 4", "100 at 2, 5"},
		{"f | 1 = 3 4", "100 at 2, 5"},
		{"f | True = 3 4\n  | 5 = 6", "100 at 2, 12"},
		{"f 1 = 2\nf x | 1 = True", "100 at 3, 7"},
		// EApp: the first, the second, then both.
		{"f = (1 2) (3 4)", "100 at 2, 6"},
		{"f = 1 (3 4)", "100 at 2, 8"},
		{"f x = (x x) (1 2)", "101 at 2, 8"},
		{"f x = x (x (1 2))", "100 at 2, 13"},
		// EIf.
		{"f = if 1 2 then 3 4 else 5 6", "100 at 2, 8"},
		{"f = if 1 then 3 4 else 5 6", "100 at 2, 8"},
		{"f = if True then 3 4 else 5 6", "100 at 2, 18"},
		{"f = if True then True else 5 6", "100 at 2, 28"},
		// ELet: its bindings ahead of its Arg. ECase: the Arg, then alternative by alternative the pattern, it and the Arg's type, the bodies.
		{"f = let { x = 1 2 } in 3 4", "100 at 2, 15"},
		{"f = case 1 2 of C 1 2 -> 3 4", "100 at 2, 10"},
		{"f = case 1 of C 1 2 -> 3 4", "100 at 2, 19"},
		{"f = case 1 of { True -> 3 4; C 1 2 -> 5 }", "100 at 2, 17"},
		{"f = case 1 of { 1 -> 3 4; C 1 2 -> 5 }", "100 at 2, 22"},
		{"f = case 1 of { 1 -> 2; 2 -> True; True -> 5 }", "100 at 2, 30"},
		// Within one row of parts that are made the same it is the store's first one.
		{"f x = (\\g -> 1) (\\y -> P (x y) (y x))", "101 at 2, 33"},
		{"g h = h; f x = P (g x 1) (x True)", "100 at 2, 27"},
	} {
		same(t, c.src, fault(t, program(t, c.src)), c.want)
	}
}

// Places are those that the parts have, whatever a source would give them.
func TestPlacesOfParts(t *testing.T) {
	one := api.Expr{Kind: api.EInt, N: 1, At: at(11, 1)}
	yes := api.Expr{Kind: api.ECon, Name: "True", At: at(12, 1)}
	app := api.Expr{Kind: api.EApp, Args: []api.Expr{one, yes}, At: at(13, 1)}
	fork := func(l ...api.Expr) api.Expr { return api.Expr{Kind: api.EIf, Args: l, At: at(14, 1)} }
	choice := func(kind int, name string, body api.Expr) api.Expr {
		pat := api.Pat{Kind: kind, Name: name, At: at(15, 1)}
		return api.Expr{Kind: api.ECase, Args: []api.Expr{one}, Alts: []api.Alt{{Pat: pat, Rhs: []api.Rhs{{Body: body}}}}, At: at(16, 1)}
	}
	inner := api.Pat{Kind: api.PInt, At: at(17, 1)}
	con := api.Pat{Kind: api.PCon, Name: "C", Args: []api.Pat{{Kind: api.PAny, At: at(18, 1)}, inner}, At: at(19, 1)}
	let := api.Expr{Kind: api.ELet, Args: []api.Expr{one}, Binds: []api.Bind{{Name: "x", Clauses: []api.Clause{{Rhs: []api.Rhs{{Body: app}}}}, At: at(20, 1)}}, At: at(21, 1)}
	clause := func(body api.Expr, pats ...api.Pat) api.Clause {
		return api.Clause{Pats: pats, Rhs: []api.Rhs{{Body: body}}}
	}
	nil1 := api.Pat{Kind: api.PCon, Name: "N", At: at(22, 1)}
	for _, c := range []struct {
		l    []api.Clause
		want api.Fault
	}{
		{[]api.Clause{clause(app)}, api.Fault{Err: api.ErrType, At: at(13, 1)}},
		{[]api.Clause{clause(let)}, api.Fault{Err: api.ErrType, At: at(13, 1)}},
		{[]api.Clause{clause(fork(one, one, one))}, api.Fault{Err: api.ErrType, At: at(11, 1)}},
		{[]api.Clause{clause(fork(yes, yes, one))}, api.Fault{Err: api.ErrType, At: at(11, 1)}},
		{[]api.Clause{clause(choice(api.PCon, "True", one))}, api.Fault{Err: api.ErrType, At: at(15, 1)}},
		{[]api.Clause{clause(choice(api.PAny, "", app))}, api.Fault{Err: api.ErrType, At: at(13, 1)}},
		{[]api.Clause{clause(one, con)}, api.Fault{Err: api.ErrType, At: at(17, 1)}},
		{[]api.Clause{clause(one, inner), clause(one, nil1)}, api.Fault{Err: api.ErrType, At: at(1, 2)}},
		{[]api.Clause{clause(one, inner), clause(fork(yes, yes, yes), inner)}, api.Fault{Err: api.ErrType, At: at(14, 1)}},
		{[]api.Clause{clause(one, inner), clause(choice(api.PVar, "x", yes), inner)}, api.Fault{Err: api.ErrType, At: at(16, 1)}},
	} {
		p := program(t, "")
		p.Binds = []api.Bind{{Name: "f", Clauses: c.l, At: at(1, 2)}}
		_, f := infer.Program(p)
		same(t, show.Program(p), f, c.want)
	}
}

// Scope's fault is first.
func TestScopeFirst(t *testing.T) {
	for _, src := range []string{"f = 1 2; g = x", "f x x = 1 2", "f = 1 2; f2 = 3; f = 4", "f 1 = 1 2; f = 3", "f = 1 2; g (C x) = 1", "f = 1 2; (+) a b = 1", "f = 1 2; data B = B Z", "f = Z"} {
		p := program(t, src)
		_, f := infer.Program(p)
		_, g := infer.Schemes(p)
		if want := scope.Check(p); f != want || g != want || want.Err == api.OK {
			t.Error(src, f, g, want)
		}
	}
	d, f := infer.Program(api.Program{Binds: []api.Bind{{Name: "f"}}})
	same(t, "no clauses", f, api.Fault{Err: api.ErrArg})
	same(t, "no clauses", len(d.Groups), 0)
}

// params are so many names.
func params(n int) string {
	var l []string
	for i := range n {
		l = append(l, "x"+fmt.Sprint(i))
	}
	return strings.Join(l, " ")
}

// A function of so many params to a type of a size has a type of size 2 * params + that.
func TestLarge(t *testing.T) {
	doubled := func(n int, open, end string) string { return strings.Repeat(open, n) + "1" + strings.Repeat(end, n) }
	for _, c := range []struct{ src, want string }{
		{"f " + params(127) + " = C 1 N", "0 at 0, 0"}, // 256
		{"f " + params(128) + " = 1", "102 at 1, 1"},   // 257
		{"f " + params(127) + " = 1\nf " + params(127) + " = 2", "0 at 0, 0"},
		{"f " + params(126) + " = C N N", "0 at 0, 0"},
		{"f " + params(127) + " = C N N", "102 at 1, 1"},
		// Of another type of the derivation.
		{"f = (\\" + params(127) + " -> C 1 N) 2", "0 at 0, 0"},
		{"f = (\\" + params(128) + " -> 1) 2", "102 at 1, 1"},
		{"f = (\\_ -> 1) (\\" + params(127) + " -> 1)", "102 at 1, 1"}, // what is applied has the type from 255 to 1
		{"f = (\\_ -> 1) (\\" + params(126) + " -> C 1 N)", "0 at 0, 0"},
		{"f = (\\_ -> 1) (\\" + params(127) + " -> C 1 N)", "102 at 1, 1"},
		{"f = case \\" + params(127) + " -> C 1 N of _ -> 1", "0 at 0, 0"},
		{"f = case \\" + params(128) + " -> 1 of _ -> 1", "102 at 1, 1"},
		{"f x = case x of { P y _ -> let { z = y + 1 } in 2 }", "0 at 0, 0"},
		// Of an ELet's member's type.
		{"f = let { g " + params(127) + " = C 1 N } in 1", "0 at 0, 0"},
		{"f = let { g " + params(128) + " = 1 } in 1", "102 at 1, 1"},
		// A member's type counts behind its group, ahead of what comes then.
		{"f " + params(128) + " = 1\ng = 1 2", "102 at 1, 1"},
		{"f " + params(128) + " = 1 2", fmt.Sprint("100 at 2, ", len("f "+params(128)+" = 1"))},
		{"f = let { g " + params(128) + " = 1 } in 1 2", "102 at 1, 1"},
		{"f " + params(128) + " = g\ng " + params(2) + " = f 1 2 3 + True", fmt.Sprint("100 at 3, ", len("g "+params(2)+" = f 1 2 3 +"))},
		// The others count in the end.
		{"f = (\\" + params(128) + " -> 1) 2\ng = 1 2", "100 at 3, 5"},
		{"f = let { g = (\\" + params(128) + " -> 1) 2 } in 1 2", fmt.Sprint("100 at 2, ", len("f = let { g = (\\"+params(128)+" -> 1) 2 } in 1"))},
		// Types that double.
		{"f x = let { x = P x x } in 1", "101 at 2, 17"},
		{"f a = let { b = P a a; c = P b b; d = P c c; e = P d d; g = P e e; h = P g g } in h", "0 at 0, 0"},
		{"f a = let { b = P a a; c = P b b; d = P c c; e = P d d; g = P e e; h = P g g; i = P h h } in i", "102 at 1, 1"},
		{"f a = let { b = P a a; c = P b b; d = P c c; e = P d d; g = P e e; h = P g g; i = P h h } in 1", "102 at 1, 1"},
		{"f = " + doubled(6, "(\\x -> P x x) (", ")"), "0 at 0, 0"},
		{"f = " + doubled(7, "(\\x -> P x x) (", ")"), "102 at 1, 1"},
		{"f = " + doubled(90, "(\\x -> P x x) (", ")"), "102 at 1, 1"},
		{"g x = P x x; f = " + doubled(90, "g (", ")"), "102 at 1, 1"},
		{"g x = P x x; f = " + doubled(90, "g (", ")") + " 2", "100 at 2, 18"},
	} {
		p := program(t, c.src)
		same(t, c.src, fault(t, p), c.want)
		if c.want == "0 at 0, 0" {
			schemes(t, p)
		}
	}
}

// typ is a type as a source has it, its variables v0, v1 and so on by their numbers.
func typ(t *testing.T, text string) api.Type {
	t.Helper()
	p, f := parse.Program("data T = T (" + text + ")")
	if f.Err != api.OK {
		t.Fatal(f, text)
	}
	var numbered func(api.Type) api.Type
	numbered = func(ty api.Type) api.Type {
		if ty.Kind == api.KVar {
			n := 0
			fmt.Sscanf(ty.Name, "v%d", &n)
			return api.Type{Kind: api.KVar, N: n}
		}
		for i, a := range ty.Args {
			ty.Args[i] = numbered(a)
		}
		return ty
	}
	return numbered(p.Datas[0].Cons[0].Fields[0])
}

// texts are a derivation's types, its variables numbered as they first stand in what is told: the groups, each with its members and variables.
func texts(l []api.DGroup) string {
	w := &writer{number: map[int]int{}}
	w.groups(l)
	return w.b.String()
}

type writer struct {
	number map[int]int
	b      strings.Builder
}

func (w *writer) variable(v int) int {
	if _, ok := w.number[v]; !ok {
		w.number[v] = len(w.number)
	}
	return w.number[v]
}

func (w *writer) typ(ty api.Type) {
	var with []api.Type
	for _, v := range unify.Vars(ty) {
		with = append(with, api.Type{Kind: api.KVar, N: w.variable(v)})
	}
	w.b.WriteString(written(unify.Subst(ty, unify.Vars(ty), with)))
}

func (w *writer) types(l []api.Type) {
	for _, ty := range l {
		w.b.WriteString(" [")
		w.typ(ty)
		w.b.WriteString("]")
	}
}

func (w *writer) groups(l []api.DGroup) {
	for _, g := range l {
		fmt.Fprint(&w.b, "{", g.Members)
		w.types(g.Types)
		for _, v := range g.Vars {
			fmt.Fprint(&w.b, " ", w.variable(v))
		}
		for _, b := range g.Binds {
			for _, c := range b.Clauses {
				w.b.WriteString("; ")
				for _, p := range c.Pats {
					w.pat(p)
				}
				w.bodies(c.Rhs)
			}
		}
		w.b.WriteString("}")
	}
}

func (w *writer) pat(d api.DPat) {
	w.b.WriteString("<")
	w.typ(d.Type)
	w.types(d.Inst)
	for _, a := range d.Args {
		w.pat(a)
	}
	w.b.WriteString(">")
}

func (w *writer) bodies(l []api.DRhs) {
	for _, r := range l {
		for _, g := range r.Guard {
			w.b.WriteString("|")
			w.expr(g)
		}
		w.b.WriteString("=")
		w.expr(r.Body)
	}
}

func (w *writer) expr(d api.Deriv) {
	w.b.WriteString("(")
	w.typ(d.Type)
	w.types(d.Inst)
	w.groups(d.Groups)
	for _, a := range d.Args {
		w.expr(a)
	}
	for _, a := range d.Alts {
		w.pat(a.Pat)
		w.bodies(a.Rhs)
	}
	w.b.WriteString(")")
}

// Derivations as they are, part by part.
func TestDerivations(t *testing.T) {
	for _, c := range []struct{ src, want string }{
		{"id x = x", "{[0] [v0 -> v0] 0; <v0>=(v0)}"},
		{"f (-1) = N", "{[0] [Int -> L v0] 0; <Int>=(L v0 [v0])}"},
		{"f (C x _) | x = 2", "{[0] [L Bool -> Int]; <L Bool [Bool]<Bool><L Bool>>|(Bool)=(Int)}"},
		{"f x = x + 1", "{[0] [Int -> Int]; <Int>=(Int(Int -> Int(Int -> Int -> Int)(Int))(Int))}"},
		{"f = \\x _ -> x", "{[0] [v0 -> v1 -> v0] 0 1; =(v0 -> v1 -> v0(v0))}"},
		{"f x y = if x then y else 1", "{[0] [Bool -> Int -> Int]; <Bool><Int>=(Int(Bool)(Int)(Int))}"},
		{"f x = case x of { P a b | b -> a }", "{[0] [P v0 Bool -> v0] 0; <P v0 Bool>=(v0(P v0 Bool)<P v0 Bool [v0] [Bool]<v0><Bool>>|(Bool)=(v0))}"},
		{"f = P", "{[0] [v0 -> v1 -> P v0 v1] 0 1; =(v0 -> v1 -> P v0 v1 [v0] [v1])}"},
		// A name with a scheme has an Inst, one with one type has none; what no name holds is not all told by Vars.
		{"a = b; b = E", "{[1] [E v0] 0; =(E v0 [v0])}{[0] [E v1] 1; =(E v1 [v1])}"},
		{"a x = a x", "{[0] [v0 -> v1] 0 1; <v0>=(v1(v0 -> v1)(v0))}"},
		{"f = (\\x -> 1) (\\y -> y)", "{[0] [Int]; =(Int((v0 -> v0) -> Int(Int))(v0 -> v0(v0)))}"},
		{"f x = let { g y = x } in g 1", "{[0] [v0 -> v0] 0; <v0>=(v0{[0] [v1 -> v0] 1; <v1>=(v0)}(v0(Int -> v0 [Int])(Int)))}"},
		{"f x = let { g y = P y x } in g", "{[0] [v0 -> v1 -> P v1 v0] 0 1; <v0>=(v1 -> P v1 v0{[0] [v2 -> P v2 v0] 2; <v2>=(P v2 v0(v0 -> P v2 v0(v2 -> v0 -> P v2 v0 [v2] [v0])(v2))(v0))}(v1 -> P v1 v0 [v1]))}"},
		// Inst is of the scheme's variables as they stand in its type.
		{"a x y = P y x; b = a 1 True", "{[0] [v0 -> v1 -> P v1 v0] 0 1; <v0><v1>=(P v1 v0(v0 -> P v1 v0(v1 -> v0 -> P v1 v0 [v1] [v0])(v1))(v0))}{[1] [P Bool Int]; =(P Bool Int(Bool -> P Bool Int(Int -> Bool -> P Bool Int [Int] [Bool])(Int))(Bool))}"},
		// A group of several: one row of Vars, of which each scheme has those that stand in its type.
		{"a x = P x b; b = P 1 (a c); c = c", ""},
		{"a x = b; b = let { d = a 1 } in E", "{[0 1] [Int -> E v0] [E v0] 0; <Int>=(E v0); =(E v0{[0] [E v0]; =(E v0(Int -> E v0)(Int))}(E v0 [v0]))}"},
		{"p x = let { q y = r y; r z = q z; s = q } in r", "{[0] [v0 -> v1 -> v2] 0 1 2; <v0>=(v1 -> v2{[0 1] [v3 -> v4] [v3 -> v4] 3 4; <v3>=(v4(v3 -> v4)(v3)); <v3>=(v4(v3 -> v4)(v3))}{[2] [v5 -> v6] 5 6; =(v5 -> v6 [v5] [v6])}(v1 -> v2 [v1] [v2]))}"},
	} {
		d, f := infer.Program(program(t, c.src))
		if c.want == "" {
			if f.Err == api.OK {
				t.Error(c.src)
			}
			continue
		}
		same(t, c.src, texts(d.Groups), c.want)
		same(t, c.src, deriv.Check(program(t, c.src), d), api.OK)
	}
}

// P12.3

// What the rules let have some types is found: these are instances.
func TestInstances(t *testing.T) {
	for _, c := range []struct {
		src   string
		types []string
		not   []string
	}{
		{"id x = x", []string{"v0 -> v0", "v7 -> v7", "Int -> Int", "L v0 -> L v0", "(v0 -> v1) -> v0 -> v1"}, []string{"v0 -> v1", "Int -> Bool", "v0", "L v0 -> v0"}},
		{"f x = let { g y = P x y } in P (g 1) (g True)", []string{"Int -> P (P Int Int) (P Int Bool)", "v4 -> P (P v4 Int) (P v4 Bool)"}, []string{"v0 -> P (P v1 Int) (P v0 Bool)", "v0 -> P (P v0 v0) (P v0 Bool)"}},
		{"f x y = f y x", []string{"v0 -> v0 -> v0", "Int -> Int -> Bool"}, []string{"Int -> Bool -> Int"}},
	} {
		l, f := infer.Schemes(program(t, c.src))
		if f.Err != api.OK || len(l) != 1 {
			t.Fatal(c.src, f)
		}
		for _, text := range c.types {
			same(t, text, deriv.Instance(l[0], typ(t, text)), true)
		}
		for _, text := range c.not {
			same(t, text, deriv.Instance(l[0], typ(t, text)), false)
		}
	}
}

// P12.4

// Places, the layout and the order of bindings turn nothing.
func TestOtherwiseLaid(t *testing.T) {
	const src = "f x = let { g y = P x y; h = g } in P (h 1) (g True)\ni x | k x x = x | True = i x\nk a b = a == b"
	p := program(t, src)
	want := schemes(t, p)
	same(t, src, want, "f: v0 -> P (P v0 Int) (P v0 Bool); i: Int -> Int; k: Int -> Int -> Bool")
	same(t, "stripped", schemes(t, parse.Strip(p)), want)
	same(t, "laid", schemes(t, program(t, "\n\nf x = let\n      g y = P x y\n      h = g\n  in P (h 1)\n       (g True)\ni x | k x x = x\n    | True = i x\n\nk a b = (a == b)")), want)
	p.Binds[0], p.Binds[1], p.Binds[2] = p.Binds[2], p.Binds[0], p.Binds[1]
	same(t, "in another order", schemes(t, p), "k: Int -> Int -> Bool; f: v0 -> P (P v0 Int) (P v0 Bool); i: Int -> Int")
	p.Datas[0], p.Datas[1] = p.Datas[1], p.Datas[0]
	same(t, "other data types first", schemes(t, p), "k: Int -> Int -> Bool; f: v0 -> P (P v0 Int) (P v0 Bool); i: Int -> Int")
}

// P12.5

func TestOneMore(t *testing.T) {
	const src = "f x = g x; g y = f y; h = P f g"
	want := schemes(t, program(t, src))
	for _, more := range []string{"z = 1", "z x = x", "z = f 1", "z = h", "z = P (f 1) (f True)", "z = z"} {
		for i := range 4 {
			p := program(t, src)
			p.Binds = slices.Insert(p.Binds, i, program(t, more).Binds[0])
			got := strings.Split(schemes(t, p), "; ")
			same(t, more, strings.Join(slices.Delete(got, i, i+1), "; "), want)
		}
	}
}

// What is handed in stays as it is, and what is answered is no part of it, nor of another part.
func TestNewMemory(t *testing.T) {
	p := program(t, "f x = let { g y = P x y; h = g } in P (h 1) (g True); i (C a N) b = case a of { 1 -> \\x -> P a b; _ -> \\y -> P 2 b }; i _ c = \\z -> i N c z; j = i")
	before := fmt.Sprint(p)
	d, f := infer.Program(p)
	same(t, "fault", f, api.Fault{})
	want, _ := infer.Program(p)
	seen := map[*api.Type]int{}
	eachType(reflect.ValueOf(d), func(l []api.Type) {
		for i := range l {
			seen[&l[i]]++
		}
	})
	for at, n := range seen {
		if n > 1 {
			t.Error(at, n)
		}
	}
	if len(seen) < 100 {
		t.Error(len(seen))
	}
	eachType(reflect.ValueOf(d), func(l []api.Type) {
		for i := range l {
			l[i] = api.Type{Kind: api.KCon, Name: "Z"}
		}
	})
	again, _ := infer.Program(p)
	same(t, "again", again, want)
	same(t, "program", fmt.Sprint(p), before)
	l, _ := infer.Schemes(p)
	l2, _ := infer.Schemes(p)
	l[0].Type.Args[0], l[0].Vars[0] = api.Type{}, 7
	l3, _ := infer.Schemes(p)
	same(t, "schemes", l3, l2)
}

// eachType does something with each list of types that stands in a value; behind it with those in these.
func eachType(v reflect.Value, do func([]api.Type)) {
	switch v.Kind() {
	case reflect.Slice:
		l, ok := v.Interface().([]api.Type)
		for i := range v.Len() {
			eachType(v.Index(i), do)
		}
		if ok {
			do(l)
		}
	case reflect.Struct:
		for i := range v.NumField() {
			eachType(v.Field(i), do)
		}
	}
}

// P1

// deep is an expression with so many parts nested in one another.
func deep(n int, within func(api.Expr) api.Expr) api.Expr {
	e := api.Expr{Kind: api.EVar, Name: "x"}
	for range n {
		e = within(e)
	}
	return e
}

func TestDeepExpressions(t *testing.T) {
	name := func(s string) api.Expr { return api.Expr{Kind: api.EVar, Name: s} }
	one, yes, x, y := api.Expr{Kind: api.EInt, N: 1}, api.Expr{Kind: api.ECon, Name: "True"}, name("x"), name("y")
	bind := func(s string, guard []api.Expr, e api.Expr) api.Bind {
		return api.Bind{Name: s, Clauses: []api.Clause{{Rhs: []api.Rhs{{Guard: guard, Body: e}}}}}
	}
	let := func(e api.Expr, l ...api.Bind) api.Expr {
		return api.Expr{Kind: api.ELet, Args: []api.Expr{e}, Binds: l}
	}
	lam := func(e api.Expr, l ...string) api.Expr {
		return api.Expr{Kind: api.ELam, Params: l, Args: []api.Expr{e}}
	}
	good, large := api.Fault{}, api.Fault{Err: api.ErrLarge, At: at(1, 1)}
	for i, c := range []struct {
		within func(api.Expr) api.Expr
		want   api.Fault
	}{
		{func(e api.Expr) api.Expr { return api.Expr{Kind: api.EApp, Args: []api.Expr{e, one}} }, large},
		{func(e api.Expr) api.Expr { return api.Expr{Kind: api.EApp, Args: []api.Expr{lam(y, "y"), e}} }, good},
		{func(e api.Expr) api.Expr { return api.Expr{Kind: api.EIf, Args: []api.Expr{yes, e, x}} }, good},
		{func(e api.Expr) api.Expr { return api.Expr{Kind: api.EIf, Args: []api.Expr{e, yes, yes}} }, good},
		{func(e api.Expr) api.Expr { return lam(e, "y", "_", "z") }, large},
		{func(e api.Expr) api.Expr {
			return api.Expr{Kind: api.ECase, Args: []api.Expr{one}, Alts: []api.Alt{{Pat: api.Pat{Kind: api.PVar, Name: "y"}, Rhs: []api.Rhs{{Guard: []api.Expr{yes}, Body: e}}}}}
		}, good},
		{func(e api.Expr) api.Expr {
			return api.Expr{Kind: api.ECase, Args: []api.Expr{e}, Alts: []api.Alt{{Pat: api.Pat{Kind: api.PVar, Name: "y"}, Rhs: []api.Rhs{{Body: y}}}}}
		}, good},
		{func(e api.Expr) api.Expr { return let(y, bind("y", []api.Expr{e}, yes)) }, good},
		{func(e api.Expr) api.Expr { return let(y, bind("y", nil, e)) }, good},
		{func(e api.Expr) api.Expr { return let(y, bind("z", nil, lam(y, "q")), bind("y", nil, e)) }, good},
		{func(e api.Expr) api.Expr { return let(e, bind("y", nil, lam(name("q"), "q"))) }, good},
		{func(e api.Expr) api.Expr { return lam(let(e, bind("y", nil, x), bind("z", nil, y)), "x") }, large},
	} {
		p := api.Program{Binds: []api.Bind{{Name: "f", Clauses: []api.Clause{{Pats: []api.Pat{{Kind: api.PVar, Name: "x"}}, Rhs: []api.Rhs{{Body: deep(1<<14, c.within)}}}}}}}
		d, f := infer.Program(p)
		same(t, i, f, c.want)
		if f == good {
			same(t, i, deriv.Check(p, d), api.OK)
		}
	}
}

func TestDeepPatterns(t *testing.T) {
	d := api.Type{Kind: api.KCon, Name: "D"}
	e := api.Type{Kind: api.KCon, Name: "E", Args: []api.Type{{Kind: api.KVar, Name: "a"}}}
	datas := []api.Data{{Name: "D", Cons: []api.Constr{{Name: "D", Fields: []api.Type{d}}}}, {Name: "E", Params: []string{"a"}, Cons: []api.Constr{{Name: "E", Fields: e.Args}}}, {Name: "F", Cons: []api.Constr{{Name: "F", Fields: []api.Type{d, e}}}}}
	datas[2].Cons[0].Fields[1].Args = []api.Type{d}
	for name, want := range map[string]api.Fault{"D": {}, "E": {Err: api.ErrLarge, At: at(1, 1)}, "F": {Err: api.ErrType, At: at(3, 4)}} {
		p := api.Pat{Kind: api.PVar, Name: "x", At: at(3, 4)}
		for range 1 << 14 {
			p = api.Pat{Kind: api.PCon, Name: strings.ReplaceAll(name, "F", "D"), Args: []api.Pat{p}}
		}
		if name == "F" {
			p.At = at(3, 4)
			p = api.Pat{Kind: api.PCon, Name: "F", Args: []api.Pat{{Kind: api.PAny}, p}}
		}
		b := api.Bind{Name: "f", Clauses: []api.Clause{{Pats: []api.Pat{p}, Rhs: []api.Rhs{{Body: api.Expr{Kind: api.EVar, Name: "x"}}}}}}
		_, f := infer.Program(api.Program{Datas: datas, Binds: []api.Bind{b}})
		same(t, name, f, want)
	}
}

func TestManyBindings(t *testing.T) {
	body := func(e api.Expr) []api.Clause { return []api.Clause{{Rhs: []api.Rhs{{Body: e}}}} }
	row := func(n int, uses func(int) api.Expr) []api.Bind {
		var l []api.Bind
		for i := range n {
			l = append(l, api.Bind{Name: "f" + fmt.Sprint(i), Clauses: body(uses(i)), At: at(i+1, 1)})
		}
		return l
	}
	name := func(i int) api.Expr { return api.Expr{Kind: api.EVar, Name: "f" + fmt.Sprint(i), At: at(i+1, 5)} }
	const most = api.MaxTokens
	ring := api.Program{Binds: row(most, func(i int) api.Expr { return name((i + 1) % most) })}
	d, f := infer.Program(ring)
	same(t, "ring", f, api.Fault{})
	same(t, "ring", len(d.Groups), 1)
	same(t, "ring", deriv.Check(ring, d), api.OK)
	chain := api.Program{Binds: row(most, func(i int) api.Expr {
		if i == most-1 {
			return api.Expr{Kind: api.ELam, Params: []string{"x"}, Args: []api.Expr{{Kind: api.EVar, Name: "x"}}}
		}
		return name(i + 1)
	})}
	l, f := infer.Schemes(chain)
	same(t, "chain", f, api.Fault{})
	for _, s := range l {
		same(t, "chain", written(s.Type), "v0 -> v0")
	}
	// Of more bindings layer 11 tells no groups: so none is in a derivation.
	many := api.Program{Binds: row(most+1, func(i int) api.Expr { return api.Expr{Kind: api.EInt} })}
	d, f = infer.Program(many)
	same(t, "many", f, api.Fault{})
	same(t, "many", len(d.Groups), 0)
	same(t, "many", deriv.Check(many, d), api.OK)
	for i, e := range []api.Expr{{Kind: api.EInt}, name(3)} {
		want := []api.Fault{{}, {Err: api.ErrType, At: at(4, 5)}}[i]
		within := api.Program{Binds: []api.Bind{{Name: "f3", Clauses: body(api.Expr{Kind: api.ELet, Binds: many.Binds, Args: []api.Expr{e}})}}}
		d, f = infer.Program(within)
		same(t, "within", f, want)
		if f.Err == api.OK {
			same(t, "within", deriv.Check(within, d), api.OK)
		}
	}
}

// Many params, fields, patterns, clauses, alternatives.
func TestWideProgram(t *testing.T) {
	const n = 1 << 14
	var ps []string
	var fields []api.Type
	var pats []api.Pat
	for i := range n {
		ps = append(ps, "a"+fmt.Sprint(i))
		fields = append(fields, api.Type{Kind: api.KVar, Name: ps[i]})
		pats = append(pats, api.Pat{Kind: api.PVar, Name: ps[i]})
	}
	wide := []api.Data{{Name: "W", Params: ps, Cons: []api.Constr{{Name: "W", Fields: fields}}}}
	body := []api.Rhs{{Body: api.Expr{Kind: api.EVar, Name: "a0"}}}
	con := api.Pat{Kind: api.PCon, Name: "W", Args: pats}
	large := api.Fault{Err: api.ErrLarge, At: at(1, 1)}
	for i, c := range []api.Clause{
		{Pats: []api.Pat{con}, Rhs: body},
		{Pats: pats, Rhs: body},
		{Rhs: []api.Rhs{{Body: api.Expr{Kind: api.ECon, Name: "W"}}}},
		{Rhs: []api.Rhs{{Body: api.Expr{Kind: api.ELam, Params: ps, Args: []api.Expr{body[0].Body}}}}},
	} {
		_, f := infer.Program(api.Program{Datas: wide, Binds: []api.Bind{{Name: "f", Clauses: []api.Clause{c}}}})
		same(t, i, f, large)
	}
	clauses := slices.Repeat([]api.Clause{{Pats: pats[:3], Rhs: slices.Repeat([]api.Rhs{{Guard: []api.Expr{{Kind: api.EVar, Name: "a1"}}, Body: body[0].Body}}, 4)}}, n)
	l, f := infer.Schemes(api.Program{Binds: []api.Bind{{Name: "f", Clauses: clauses}}})
	same(t, "clauses", f, api.Fault{})
	same(t, "clauses", written(l[0].Type), "v0 -> Bool -> v1 -> v0")
	alts := slices.Repeat([]api.Alt{{Pat: pats[0], Rhs: body}}, n)
	l, f = infer.Schemes(api.Program{Binds: []api.Bind{{Name: "f", Clauses: []api.Clause{{Pats: pats[1:2], Rhs: []api.Rhs{{Body: api.Expr{Kind: api.ECase, Args: []api.Expr{{Kind: api.EVar, Name: "a1"}}, Alts: alts}}}}}}}})
	same(t, "alternatives", f, api.Fault{})
	same(t, "alternatives", written(l[0].Type), "v0 -> v0")
}
