package mutate_test

import (
	"fmt"
	"math"
	"reflect"
	"slices"
	"strings"
	"testing"

	"changeling/api"
	"changeling/infer"
	"changeling/mutate"
	"changeling/parse"
	"changeling/show"
)

func at(line, col int) api.Pos { return api.Pos{Line: line, Col: col} }

// nothing asks for what a program has of which infer has a fault.
func nothing(t *testing.T, p api.Program, want api.Fault) {
	t.Helper()
	_, fault := infer.Program(p)
	same(t, line(p), fault, want)
	l, fault := mutate.All(p)
	same(t, line(p), fault, want)
	same(t, line(p), len(l), 0)
	same(t, line(p), len(mutate.Rewrites(p)), 0)
	same(t, line(p), mutate.Sites(p), 0)
}

// P21.1, P21.2

func TestFaults(t *testing.T) {
	for _, c := range []struct {
		src  string
		want api.Fault
	}{
		{"data Int = I\nf = 1", api.Fault{Err: api.ErrTwice, At: at(1, 6)}},
		{"data D = A B\nf = 1", api.Fault{Err: api.ErrNone, At: at(1, 10)}},
		{"data D = A (D Int)\nf = 1", api.Fault{Err: api.ErrArity, At: at(1, 10)}},
		{"infixl 3 !\ninfixr 4 !\nf = 1", api.Fault{Err: api.ErrTwice, At: at(2, 10)}},
		{"f = 1\ng = 2\nf = 3", api.Fault{Err: api.ErrTwice, At: at(3, 1)}},
		{"f = 1\nf = 2", api.Fault{Err: api.ErrTwice, At: at(1, 1)}},
		{"f x x = 1", api.Fault{Err: api.ErrTwice, At: at(1, 5)}},
		{"f x = y + 1", api.Fault{Err: api.ErrNone, At: at(1, 7)}},
		{"f x = A 1", api.Fault{Err: api.ErrNone, At: at(1, 7)}},
		{"f (A x) = 1", api.Fault{Err: api.ErrNone, At: at(1, 4)}},
		{"f True 1 = 1\nf False = 2", api.Fault{Err: api.ErrArity, At: at(1, 1)}},
		{"f (True x) = 1", api.Fault{Err: api.ErrArity, At: at(1, 4)}},
		{"(+) x y = 1", api.Fault{Err: api.ErrPrim, At: at(1, 2)}},
		{"f x = x + True", api.Fault{Err: api.ErrType, At: at(1, 9)}},
		{"f x = 1 + x x", api.Fault{Err: api.ErrCycle, At: at(1, 11)}},
		{"f " + strings.Repeat("_ ", 128) + "= 1", api.Fault{Err: api.ErrLarge, At: at(1, 1)}},
	} {
		nothing(t, program(t, c.src), c.want)
	}
}

// What may not be is refused wherever it stands; and no kind of part, and no lists of it, are too strange.
func TestWrongInputs(t *testing.T) {
	t.Parallel()
	src := program(t, datas+"infixl 3 !; f (C 1 x) | True = \\y _ -> if y then let { z = 2 } in z else case x of { N -> 3 }; f _ = \\_ -> g; g x = 4 ! 5; h = E; (!) x y = 3")
	if mutate.Sites(src) == 0 {
		t.Fatal(infer.Program(src))
	}
	wrong := 0
	for i := range len(spots(reflect.ValueOf(&src).Elem())) {
		for _, change := range []func(reflect.Value){
			func(v reflect.Value) { v.SetZero() },
			func(v reflect.Value) {
				switch v.Kind() {
				case reflect.Int, reflect.Int64:
					v.SetInt(-1)
				case reflect.String:
					v.SetString("a b")
				case reflect.Slice:
					v.Set(reflect.AppendSlice(v, reflect.MakeSlice(v.Type(), 3, 3)))
				}
			},
			func(v reflect.Value) {
				switch v.Kind() {
				case reflect.Int, reflect.Int64:
					v.SetInt(v.Int() + 1)
				case reflect.String:
					v.SetString("Z")
				case reflect.Slice:
					v.Set(v.Slice(0, v.Len()/2))
				}
			},
		} {
			p := copied(reflect.ValueOf(src)).Interface().(api.Program)
			change(spots(reflect.ValueOf(&p).Elem())[i])
			if _, fault := infer.Program(p); fault.Err != api.OK {
				nothing(t, p, fault)
				wrong++
			} else if i%5 == 0 {
				modelled(t, p)
			}
		}
	}
	if wrong < 300 {
		t.Error(wrong)
	}
	nothing(t, api.Program{Binds: make([]api.Bind, 2)}, api.Fault{Err: api.ErrArg})
}

// The types of what comes of it count, those of other bindings too.
func TestSchemes(t *testing.T) {
	// Dropped is what makes g need f, and f g: alone g is more general.
	expect(t, "f X = X; f n = g n Y; g x y = let { z = f Z } in x", 18, `
		+ 0 swap-clause f n = g n Y; f X = X; g x y = let { z = f Z } in x
		+ 0 drop-clause f n = g n Y; g x y = let { z = f Z } in x
		- 0 drop-clause f X = X; g x y = let { z = f Z } in x
		+ 1 wild f _ = X; f n = g n Y; g x y = let { z = f Z } in x
		+ 2 con f X = Y; f n = g n Y; g x y = let { z = f Z } in x
		+ 2 con f X = Z; f n = g n Y; g x y = let { z = f Z } in x
		+ 8 con f X = X; f n = g n X; g x y = let { z = f Z } in x
		+ 8 con f X = X; f n = g n Z; g x y = let { z = f Z } in x
		+ 16 con f X = X; f n = g n Y; g x y = let { z = f X } in x
		+ 16 con f X = X; f n = g n Y; g x y = let { z = f Y } in x`)
	// Types of one shape: another data type, another variable.
	expect(t, "x = X; data P = P U | Q; f Q = f Q; f (P x) = x", 10, `
		+ 1 con x = Y; f Q = f Q; f (P x) = x
		+ 1 con x = Z; f Q = f Q; f (P x) = x
		+ 2 swap-clause x = X; f (P x) = x; f Q = f Q
		+ 2 drop-clause x = X; f (P x) = x
		- 2 drop-clause x = X; f Q = f Q
		+ 3 wild x = X; f _ = f Q; f (P x) = x
		- 6 con x = X; f Q = f P; f (P x) = x
		- 7 wild x = X; f Q = f Q; f _ = x`)
	expect(t, "f x w = case w of { C x _ -> x; N -> h }; h = h", 13, `
		+ 3 swap-alt f x w = case w of { N -> h; C x _ -> x }; h = h
		- 3 drop-alt f x w = case w of { N -> h }; h = h
		+ 3 drop-alt f x w = case w of { C x _ -> x }; h = h
		- 5 wild f x w = case w of { _ -> x; N -> h }; h = h
		+ 9 wild f x w = case w of { C x _ -> x; _ -> h }; h = h`)
	// A type that is too large: of f, as it stands in g, with n of 126 it would have the size 257.
	for _, n := range []int{10, 125, 126} {
		l, fault := mutate.All(program(t, "data S = S1 | S2 ("+strings.Repeat("Int -> ", n)+"Int)\nf _ = True\ng = f S1"))
		same(t, fmt.Sprint(n), fault, api.Fault{})
		got := []string{}
		for _, m := range l {
			got = append(got, line(m.Program))
		}
		want := []string{"f _ = False; g = f S1", "f _ = True; g = f S2"}
		if n == 126 {
			want = want[:1]
		}
		same(t, fmt.Sprint(n), got, want)
	}
}

// numbers is a program of bindings: of each of some integers 5, and of each of some 1. Those have three mutants, these two.
func numbers(fives, ones int) string {
	text := ""
	for i := range fives + ones {
		text += fmt.Sprintf("x%d = %d\n", i, map[bool]int{true: 5, false: 1}[i < fives])
	}
	return text
}

// chained is a binding of so many integers 1 with an operator between two of them, which have two and four mutants, then more.
func chained(ones int, more string) string {
	return "f = 1" + strings.Repeat(" - 1", ones-1) + more
}

func TestMany(t *testing.T) {
	const most = api.MaxMutants
	for _, c := range []struct {
		src  string
		many int
	}{
		{numbers(170, 0), most - 2},
		{numbers(170, 1), most},
		{numbers(171, 0), most + 1},
		{numbers(0, 256), most},
		{numbers(1, 255), most + 1},
		{numbers(0, 257), most + 2},
		{numbers(0, 256) + "f = U; g x = x; data U = U", most},
		{numbers(0, 255) + "f x = x; f x = x; data U = U", most - 1},
		{numbers(0, 255) + "f = V; data U = U | V", most - 1},
		{numbers(0, 255) + "f = V; data U = U Int | V", most - 2},
		{numbers(0, 255) + "f = V; data U = U | V; g x = x; g x = x", most},
		{numbers(0, 255) + "f = V; data U = U | V; g x = x; g x = x; h = V", most + 1},
		{chained(86, ""), most},
		{chained(85, " - 5"), most + 1},
		{chained(86, " - y; y = y"), most + 4},
	} {
		p := program(t, c.src)
		l, fault := mutate.All(p)
		if c.many > most {
			same(t, c.src, len(l), 0)
			same(t, c.src, fault, api.Fault{Err: api.ErrLong, At: at(1, 1)})
			continue
		}
		same(t, c.src, len(l), c.many)
		same(t, c.src, fault, api.Fault{})
	}
	same(t, "rewrites", len(mutate.Rewrites(program(t, numbers(100, 100)))), 600)
	same(t, "sites", mutate.Sites(program(t, numbers(200, 100))), 600)
	// A fault of infer's comes ahead of too many mutants.
	nothing(t, program(t, numbers(200, 0)+"f = 1 + True"), api.Fault{Err: api.ErrType, At: at(201, 7)})
	nothing(t, program(t, numbers(200, 0)+"f = g"), api.Fault{Err: api.ErrNone, At: at(201, 5)})
}

// Where new parts have no places, all others have their own.
func TestPlaces(t *testing.T) {
	leaf := func(kind int, name string, n int64, at api.Pos) api.Expr {
		return api.Expr{Kind: kind, Name: name, N: n, At: at}
	}
	body := func(m api.Mutant) api.Expr { return m.Program.Binds[0].Clauses[0].Rhs[0].Body }
	first := func(l []api.Mutant, op int) api.Mutant {
		return l[slices.IndexFunc(l, func(m api.Mutant) bool { return m.Op == op })]
	}
	l, _ := mutate.All(program(t, "f x = x + 1"))
	none := api.Pos{}
	sum := func(op, x, one api.Expr) api.Expr {
		return api.Expr{Kind: api.EApp, Args: []api.Expr{{Kind: api.EApp, Args: []api.Expr{op, x}, At: at(1, 9)}, one}, At: at(1, 9)}
	}
	x := leaf(api.EVar, "x", 0, at(1, 7))
	same(t, "arith", body(first(l, api.MArith)), sum(leaf(api.EVar, "-", 0, none), x, leaf(api.EInt, "", 1, at(1, 11))))
	same(t, "next", body(first(l, api.MNext)), sum(leaf(api.EVar, "+", 0, at(1, 9)), x, leaf(api.EInt, "", 2, none)))
	same(t, "bind", first(l, api.MNext).Program.Binds[0].At, at(1, 1))
	same(t, "pattern", first(l, api.MNext).Program.Binds[0].Clauses[0].Pats, []api.Pat{{Kind: api.PVar, Name: "x", At: at(1, 3)}})

	not := func(e api.Expr) api.Expr {
		return api.Expr{Kind: api.EIf, Args: []api.Expr{e, leaf(api.ECon, "False", 0, none), leaf(api.ECon, "True", 0, none)}}
	}
	l, _ = mutate.All(program(t, "f x | x = if x then A else B\ndata D = A | B"))
	same(t, "guard", first(l, api.MGuard).Program.Binds[0].Clauses[0].Rhs[0].Guard, []api.Expr{not(leaf(api.EVar, "x", 0, at(1, 7)))})
	same(t, "if", body(l[1]), api.Expr{Kind: api.EIf, Args: []api.Expr{not(leaf(api.EVar, "x", 0, at(1, 14))), leaf(api.ECon, "A", 0, at(1, 21)), leaf(api.ECon, "B", 0, at(1, 28))}, At: at(1, 11)})
	same(t, "con", body(first(l, api.MCon)), api.Expr{Kind: api.EIf, Args: []api.Expr{leaf(api.EVar, "x", 0, at(1, 14)), leaf(api.ECon, "B", 0, none), leaf(api.ECon, "B", 0, at(1, 28))}, At: at(1, 11)})

	l, _ = mutate.All(program(t, "f (C 1) x = 2\nf y 3 = 4\ndata D = C Int"))
	clauses := func(m api.Mutant) []api.Clause { return m.Program.Binds[0].Clauses }
	same(t, "swapped", clauses(l[0])[0].Pats, []api.Pat{{Kind: api.PVar, Name: "y", At: at(2, 3)}, {Kind: api.PInt, N: 3, At: at(2, 5)}})
	same(t, "swapped", clauses(l[0])[1].Rhs[0].Body.At, at(1, 13))
	pats := func(op int) api.Pat { return clauses(first(l, op))[0].Pats[0] }
	same(t, "wild", pats(api.MWild), api.Pat{Kind: api.PCon, Name: "C", Args: []api.Pat{{Kind: api.PAny}}, At: at(1, 4)})
	same(t, "next", pats(api.MPatNext), api.Pat{Kind: api.PCon, Name: "C", Args: []api.Pat{{Kind: api.PInt, N: 2}}, At: at(1, 4)})
	same(t, "prev", pats(api.MPatPrev), api.Pat{Kind: api.PCon, Name: "C", Args: []api.Pat{{Kind: api.PInt}}, At: at(1, 4)})
}

// P21.3

func TestName(t *testing.T) {
	l := strings.Fields("swap-clause drop-clause swap-alt drop-alt wild pat-next pat-prev con guard next prev zero arith rel")
	for i, want := range l {
		same(t, want, mutate.Name(i+1), want)
	}
	for _, op := range []int{0, 15, 16, 100, math.MaxInt, -1, -14, math.MinInt} {
		same(t, fmt.Sprint(op), mutate.Name(op), "")
	}
}

// What is handed in stays as it is, and what is answered is no part of it, nor of another part.
func TestNewMemory(t *testing.T) {
	p := program(t, datas+"infixl 3 +; f (C 0 l) (H x) | True = 1 | False = g 3; f N y = let { a = 4; b x = a } in b 5; f l E = case g 1 of { 1 -> 6; z | z == 2 -> 7; _ -> 8 }; f a b = (\\x y -> x) 1 2; g x = if True then x else x; h = C (1 + 2) N")
	before := fmt.Sprint(p)
	for what, ask := range map[string]func() []api.Mutant{
		"rewrites": func() []api.Mutant { return mutate.Rewrites(p) },
		"all":      func() []api.Mutant { l, _ := mutate.All(p); return l },
	} {
		l := ask()
		want := fmt.Sprint(l)
		seen := map[any]int{}
		for _, v := range []reflect.Value{reflect.ValueOf(l), reflect.ValueOf(p)} {
			eachSlice(v, func(v reflect.Value) {
				for i := range v.Len() {
					seen[v.Index(i).Addr().Interface()]++
				}
			})
		}
		for at, n := range seen {
			if n > 1 {
				t.Errorf("%s: %T", what, at)
			}
		}
		if len(l) < 70 || len(seen) < 90*len(l) {
			t.Error(what, len(l), len(seen))
		}
		eachSlice(reflect.ValueOf(l), func(v reflect.Value) {
			for i := range v.Len() {
				v.Index(i).SetZero()
			}
		})
		same(t, what, fmt.Sprint(p), before)
		same(t, what, fmt.Sprint(ask()), want)
	}
	mutate.Sites(p)
	same(t, "sites", fmt.Sprint(p), before)
}

// eachSlice does something with each list that stands in a value, behind those in it.
func eachSlice(v reflect.Value, do func(reflect.Value)) {
	switch v.Kind() {
	case reflect.Slice:
		for i := range v.Len() {
			eachSlice(v.Index(i), do)
		}
		do(v)
	case reflect.Struct:
		for i := range v.NumField() {
			eachSlice(v.Field(i), do)
		}
	}
}

// P21.7

// The same program, laid otherwise, or without places, or with others.
func TestOtherPlaces(t *testing.T) {
	const src = datas + "f (C 0 l) y | y = 1 | g y == 2 = 3; f N _ = let { a = 4; b x = a } in b 5; f l y = case y of { True -> 6; z | z -> 7; _ -> if z then 8 else 9 }; g = \\x -> 10; z = True"
	const laid = datas + "f (C 0 l) y | y = 1\n            | (g y) == 2 = (3)\nf (N) (_) = let a = 4\n                b x = a\n            in b 5\n\n\nf l y = case y of\n  True -> 6\n  z | z -> 7\n  _ -> if z -- no\n       then 8 else (((9)))\ng = (\\x -> 10)\nz = True"
	p := program(t, src)
	want := marked(t, p)
	same(t, "laid", marked(t, program(t, laid)), want)
	same(t, "stripped", marked(t, parse.Strip(p)), want)
	same(t, "written", marked(t, program(t, show.Program(p))), want)
	if len(want) < 50 {
		t.Error(want)
	}
}
