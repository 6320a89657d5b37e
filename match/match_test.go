package match_test

import (
	"fmt"
	"math"
	"reflect"
	"slices"
	"strings"
	"testing"

	"changeling/api"
	"changeling/decl"
	"changeling/infer"
	"changeling/match"
	"changeling/num"
	"changeling/parse"
	"changeling/show"
)

// datas are declared ahead of most sources here, in one line.
const datas = "data L = N | C Int L; data T = A | B | D Int T; data U = U; data W = W T Int Bool; data G = G (Int -> Int) | H; data M a = O | J a; "

func same(t *testing.T, what, got, want any) {
	t.Helper()
	if !reflect.DeepEqual(got, want) {
		t.Errorf("%v: %v, not %v", what, got, want)
	}
}

// program is what a source says behind the data types; its first line stands behind a line of their own.
func program(t *testing.T, src string) api.Program {
	t.Helper()
	p, f := parse.Program(datas + "\n" + src)
	if f.Err != api.OK {
		t.Fatal(f, src)
	}
	return p
}

func operator(name string) string {
	if strings.ContainsAny(name[:1], "abcdefghijklmnopqrstuvwxyz") {
		return name
	}
	return "(" + name + ")"
}

// text is a core expression in a short form.
func text(c api.Core) string {
	var parts []string
	for _, a := range c.Args {
		parts = append(parts, text(a))
	}
	args := strings.Join(parts, " ")
	parts = nil
	switch c.Kind {
	case api.CVar:
		return c.Name
	case api.CGlob:
		return operator(c.Name)
	case api.CInt:
		return fmt.Sprint(c.N)
	case api.CCon:
		return fmt.Sprintf("%s/%d/%d", c.Name, c.N, c.Arity)
	case api.CApp:
		return "(" + args + ")"
	case api.CPrim:
		return "(" + num.Name(int(c.N)) + " " + args + ")"
	case api.CFail:
		return "fail"
	case api.CLam:
		return "\\" + strings.Join(c.Params, " ") + " -> " + args
	case api.CLet:
		for _, b := range c.Binds {
			parts = append(parts, b.Name+" = "+text(b.Body))
		}
		return "let {" + strings.Join(parts, "; ") + "} in " + args
	case api.CCase:
		for _, a := range c.Alts {
			parts = append(parts, altText(a))
		}
		return "case " + args + " {" + strings.Join(parts, "; ") + "}"
	}
	return fmt.Sprint("?", c.Kind)
}

func altText(a api.CAlt) string {
	to := " -> " + text(a.Body)
	switch a.Kind {
	case api.ACon:
		return strings.Join(append([]string{fmt.Sprintf("%s/%d", a.Name, a.N)}, a.Params...), " ") + to
	case api.AInt:
		return fmt.Sprint(a.N) + to
	case api.AAny:
		return "_" + to
	}
	return "?"
}

func texts(l []api.Def) []string {
	var all []string
	for _, d := range l {
		all = append(all, d.Name+" = "+text(d.Body))
	}
	return all
}

// compiled is a program's definitions, once it is known that they may be, and that Bind tells each (of many some).
func compiled(t *testing.T, p api.Program) []api.Def {
	t.Helper()
	l, f := match.Compile(p)
	if f != (api.Fault{}) || len(l) != len(p.Binds) {
		t.Fatal(f, len(l), show.Program(p))
	}
	right := rightness(p)
	for k, d := range l {
		if d.Name != p.Binds[k].Name {
			t.Error(k, d.Name, p.Binds[k].Name)
		}
		if what := right.wrong(d.Body, nil); what != "" {
			t.Fatalf("%s in %s of\n%s", what, text(d.Body), show.Program(p))
		}
		if k%(1+len(l)/4) > 0 {
			continue
		}
		one, err := match.Bind(p, k)
		if err != api.OK || !reflect.DeepEqual(one, d) {
			t.Errorf("%v of %d in\n%s", err, k, show.Program(p))
		}
	}
	return l
}

// knowing is what a core expression is held against when it is asked whether it may be.
type knowing struct {
	table *decl.Table
	globs map[string]int
}

func rightness(p api.Program) knowing {
	table, _ := decl.New(p.Datas)
	k := knowing{table, map[string]int{}}
	for _, b := range p.Binds {
		k.globs[b.Name]++
	}
	for op := 1; op <= 11; op++ {
		k.globs[num.Name(op)]++
	}
	return k
}

// local tells whether a name may be a local one.
func local(name string) bool {
	n, err := num.Parse(strings.TrimPrefix(name, "#"))
	return strings.HasPrefix(name, "#") && err == api.OK && n >= 0
}

func locals(l []string) bool {
	for i, name := range l {
		if !local(name) || slices.Contains(l[:i], name) {
			return false
		}
	}
	return true
}

// shape is what a core expression is on its outside.
type shape struct {
	kind                             int
	name                             string
	n                                int64
	arity                            int
	params, args, alts, binds, picks int
}

func outside(c api.Core) shape {
	return shape{c.Kind, c.Name, c.N, c.Arity, len(c.Params), len(c.Args), len(c.Alts), len(c.Binds), len(c.Picks)}
}

// wrong is what is wrong with a core expression of a program, by the chapter's words; bound are the names in scope.
func (k knowing) wrong(c api.Core, bound []string) string {
	want := api.Core{Kind: c.Kind, Args: c.Args}
	args, names := 0, []string{}
	switch c.Kind {
	case api.CVar:
		want.Name = c.Name
		if !local(c.Name) || !slices.Contains(bound, c.Name) {
			return "name " + c.Name
		}
	case api.CGlob:
		want.Name = c.Name
		if k.globs[c.Name] != 1 {
			return "global " + c.Name
		}
	case api.CInt:
		want.N = c.N
	case api.CCon:
		want.Name, want.N, want.Arity = c.Name, c.N, c.Arity
		con, ok := k.table.Con(c.Name)
		if !ok || int(c.N) != con.Tag || c.Arity != len(con.Fields) {
			return "constructor"
		}
	case api.CApp:
		args = 2
	case api.CPrim:
		want.N, args = c.N, 2
		if c.N < 1 || c.N > 11 {
			return "operator"
		}
	case api.CFail:
	case api.CLam:
		want.Params, args, names = c.Params, 1, c.Params
		if len(c.Params) == 0 {
			return "params"
		}
	case api.CLet:
		want.Binds, args = c.Binds, 1
		for _, b := range c.Binds {
			names = append(names, b.Name)
		}
		if len(c.Binds) == 0 {
			return "binds"
		}
	case api.CCase:
		want.Alts, args = c.Alts, 1
		if what := k.wrongAlts(c.Alts, bound); what != "" {
			return what
		}
	default:
		return "kind"
	}
	if outside(want) != outside(c) {
		return "fields"
	}
	if len(c.Args) != args || !locals(names) {
		return "args or names"
	}
	within := slices.Concat(bound, names)
	for _, a := range c.Args {
		if what := k.wrong(a, within); what != "" {
			return what
		}
	}
	for _, b := range c.Binds {
		if what := k.wrong(b.Body, within); what != "" {
			return what
		}
	}
	return ""
}

func (k knowing) wrongAlts(l []api.CAlt, bound []string) string {
	seen := map[string]int{}
	all := 0
	for i, a := range l {
		want := api.CAlt{Kind: a.Kind, Body: a.Body}
		switch {
		case a.Kind == api.AAny && i == len(l)-1:
		case a.Kind == api.AInt:
			want.N = a.N
			if seen[fmt.Sprint(a.N)]++; seen[fmt.Sprint(a.N)] > 1 {
				return "integer twice"
			}
		case a.Kind == api.ACon:
			want.Name, want.N, want.Params = a.Name, a.N, a.Params
			con, ok := k.table.Con(a.Name)
			if seen[a.Name]++; !ok || seen[a.Name] > 1 || int(a.N) != con.Tag || len(a.Params) != len(con.Fields) || !locals(a.Params) {
				return "alternative of " + a.Name
			}
			if first, _ := k.table.Con(l[0].Name); con.Data != first.Data {
				return "alternatives of two data types"
			}
			all = len(k.table.Cons(con.Data))
		default:
			return "alternative"
		}
		if a.Kind != l[0].Kind && a.Kind != api.AAny || want.Name != a.Name || want.N != a.N || len(want.Params) != len(a.Params) {
			return "alternative's fields"
		}
		if what := k.wrong(a.Body, slices.Concat(bound, a.Params)); what != "" {
			return what
		}
	}
	if len(seen) == 0 {
		return "no alternative that asks"
	}
	// Without need there is no AAny: nothing would come to it.
	if needed := l[0].Kind == api.AInt || all > len(seen); needed != (l[len(l)-1].Kind == api.AAny) {
		return "AAny"
	}
	return ""
}

// P14.1

// The document's examples, and those of its section of ten.
func TestExamples(t *testing.T) {
	for _, c := range []struct{ src, want string }{
		{"f 0 = 1", `f = \#0 -> case #0 {0 -> 1; _ -> fail}`},
		{"a = True; i = if a then 1 else 2", "i = case a {False/0 -> 2; True/1 -> 1}"},
		{"f 0 = 1; f n = f (n - 1)", `f = \#0 -> case #0 {0 -> 1; _ -> (f (- #0 1))}`},
		{"f x = x+1*2", `f = \#0 -> (+ #0 (* 1 2))`},
		{"f = case 3 of { 1 -> 2 }", "f = case 3 {1 -> 2; _ -> fail}"},
		{"ones = C 1 ones", "ones = ((C/1/2 1) ones)"},
	} {
		l := texts(compiled(t, program(t, c.src)))
		same(t, c.src, l[len(l)-1], c.want)
	}
}

// What parts of programs are made to.
func TestShapes(t *testing.T) {
	for _, c := range []struct{ src, want string }{
		// Names, constants, applications.
		{"f = g; g = 1", "g"},
		{"f = (-9223372036854775808)", "-9223372036854775808"},
		{"f = 9223372036854775807", "9223372036854775807"},
		{"f = True", "True/1/0"},
		{"f = D", "D/2/2"},
		{"f = D 1", "(D/2/2 1)"},
		{"f = D 1 A", "((D/2/2 1) A/0/0)"},
		{"f x y = x y", `\#0 #1 -> (#0 #1)`},
		{"f x = \\y -> x y", `\#0 -> \#1 -> (#0 #1)`},
		{"f = \\x _ _ y -> x y", `\#0 #1 #2 #3 -> (#0 #3)`},
		{"f x = x ! 1; (!) x y = x", `\#0 -> (((!) #0) 1)`},
		// Operators of num: applied to no, one, two expressions; names in their places are as they are.
		{"f = (+)", "(+)"},
		{"f = (+) 1", "((+) 1)"},
		{"f = (+) 1 2", "(+ 1 2)"},
		{"f x = x / 2 % 3 - 4 * 5", `\#0 -> (- (% (/ #0 2) 3) (* 4 5))`},
		{"f x = x == 1; g = (1 /= 2)", `\#0 -> (== #0 1)`},
		{"f x = g (x < 1) (x <= 1) (x > 1) (x >= 1); g a b c d = a", `\#0 -> ((((g (< #0 1)) (<= #0 1)) (> #0 1)) (>= #0 1))`},
		{"f g = g 1 2", `\#0 -> ((#0 1) 2)`},
		{"f = let { g = (+) } in g 1 2", "let {#0 = (+)} in ((#0 1) 2)"},
		{"f = (let { x = (+) } in x) 1 2", "((let {#0 = (+)} in #0 1) 2)"},
		{"f = (if True then (+) else (-)) 1 2", "((case True/1/0 {False/0 -> (-); True/1 -> (+)} 1) 2)"},
		{"f 1 x = 2 + x", `\#0 #1 -> case #0 {1 -> (+ 2 #1); _ -> fail}`},
		// Bindings.
		{"f = let { x = y; y = \\z -> x z } in x", `let {#0 = #1; #1 = \#2 -> (#0 #2)} in #0`},
		{"f x = let { g 0 = x; g y = g (y - 1) } in g x", `\#0 -> let {#1 = \#2 -> case #2 {0 -> #0; _ -> (#1 (- #2 1))}} in (#1 #0)`},
		{"f x = let { x = 1 } in x", `\#0 -> let {#1 = 1} in #1`},
		{"f x = let { (!) a = a } in (!) x", `\#0 -> let {#1 = \#2 -> #2} in (#1 #0)`},
		{"f = let { g = 1 } in let { h = g } in h", "let {#0 = 1} in let {#1 = #0} in #1"},
		// Guards.
		{"f | True = 1", "case True/1/0 {False/0 -> fail; True/1 -> 1}"},
		{"f x | x == 1 = 2 | x == 3 = x", `\#0 -> case (== #0 1) {False/0 -> case (== #0 3) {False/0 -> fail; True/1 -> #0}; True/1 -> 2}`},
		{"f x y | y = x; f 1 _ = 2; f x y = x", `\#0 #1 -> case #1 {False/0 -> case #0 {1 -> 2; _ -> #0}; True/1 -> #0}`},
		// Patterns.
		{"f _ = 1", `\#0 -> 1`},
		{"f (-9223372036854775808) = 1; f 9223372036854775807 = 2", `\#0 -> case #0 {-9223372036854775808 -> 1; 9223372036854775807 -> 2; _ -> fail}`},
		{"f U = 1", `\#0 -> case #0 {U/0 -> 1}`},
		{"f N = 1; f (C x l) = x + f l", `\#0 -> case #0 {N/0 -> 1; C/1 #1 #2 -> (+ #1 (f #2))}`},
		{"f (C x l) = x; f N = 1", `\#0 -> case #0 {N/0 -> 1; C/1 #1 #2 -> #1}`},
		{"f (C x _) = x", `\#0 -> case #0 {C/1 #1 #2 -> #1; _ -> fail}`},
		{"f (C 1 (C x N)) = x", `\#0 -> case #0 {C/1 #1 #2 -> case #1 {1 -> case #2 {C/1 #3 #4 -> case #4 {N/0 -> #3; _ -> fail}; _ -> fail}; _ -> fail}; _ -> fail}`},
		{"f True x = 1; f y False = 2", `\#0 #1 -> case #0 {True/1 -> 1; _ -> case #1 {False/0 -> 2; _ -> fail}}`},
		// Behind what always matches nothing is tried.
		{"f 1 = 2; f _ = 3; f 4 = 5; f x = 6", `\#0 -> case #0 {1 -> 2; _ -> 3}`},
		{"f True = 1; f False = 2; f x = 3", `\#0 -> case #0 {False/0 -> 2; True/1 -> 1}`},
		// What stands behind is there once, if it is asked for in several places and isn't a leaf.
		{"f 1 2 = 3; f x y = x + y", `\#0 #1 -> let {#2 = (+ #0 #1)} in case #0 {1 -> case #1 {2 -> 3; _ -> #2}; _ -> #2}`},
		{"f 1 2 = 3; f x y = x", `\#0 #1 -> case #0 {1 -> case #1 {2 -> 3; _ -> #0}; _ -> #0}`},
		// Cases.
		{"f x = case x of { 1 -> 2; y -> y }", `\#0 -> case #0 {1 -> 2; _ -> #0}`},
		{"f x = case x + 1 of { 1 -> 2; _ -> 3 }", `\#0 -> case (+ #0 1) {1 -> 2; _ -> 3}`},
		{"f x = case x + 1 of { y -> y * y }", `\#0 -> let {#1 = (+ #0 1)} in (* #1 #1)`},
		{"f x = case x + 1 of { 1 | x == 2 -> 2; y | y == 3 -> 4; 5 -> 6 }", `\#0 -> let {#1 = (+ #0 1)} in let {#2 = case (== #1 3) {False/0 -> case #1 {5 -> 6; _ -> fail}; True/1 -> 4}} in case #1 {1 -> case (== #0 2) {False/0 -> #2; True/1 -> 2}; _ -> #2}`},
		{"f x = case x + 1 of { 1 | x == 2 -> 3; _ | x == 4 -> 5; 6 -> 7 }", `\#0 -> let {#1 = (+ #0 1)} in let {#2 = case (== #0 4) {False/0 -> case #1 {6 -> 7; _ -> fail}; True/1 -> 5}} in case #1 {1 -> case (== #0 2) {False/0 -> #2; True/1 -> 3}; _ -> #2}`},
		{"f x = case x + 1 of { _ | x == 4 -> 5; 6 -> 7; 8 -> 9 }", `\#0 -> case (== #0 4) {False/0 -> case (+ #0 1) {6 -> 7; 8 -> 9; _ -> fail}; True/1 -> 5}`},
		{"f x = case x / 0 of { _ -> 1 }", `\#0 -> 1`},
		// A name's number does not hang on what stands beside it.
		{"f x = g (\\y -> y) (let { z = x } in z) (\\y z -> z) (case x of { C a l -> a }); g a b c d = 1", `\#0 -> ((((g \#1 -> #1) let {#1 = #0} in #1) \#1 #2 -> #2) case #0 {C/1 #1 #2 -> #1; _ -> fail})`},
		{"f x = case g x of { J (C y N) -> y; O -> 2; J (C z (C y N)) | y == z -> y; J _ -> 4 }; g x = x", `\#0 -> case (g #0) {O/0 -> 2; J/1 #1 -> case #1 {C/1 #2 #3 -> case #3 {N/0 -> #2; C/1 #4 #5 -> case #5 {N/0 -> case (== #4 #2) {False/0 -> 4; True/1 -> #4}; _ -> 4}}; _ -> 4}}`},
	} {
		same(t, c.src, text(compiled(t, program(t, c.src))[0].Body), c.want)
	}
}

// A case of all constructors of a data type needs no AAny, one of some of them does, and so does one of integers, however many.
func TestAny(t *testing.T) {
	for _, c := range []struct {
		src  string
		alts int
		any  bool
	}{
		{"f A = 1; f B = 2; f (D _ _) = 3", 3, false},
		{"f (D _ _) = 3; f B = 2; f A = 1", 3, false},
		{"f A = 1; f B = 2", 3, true},
		{"f A = 1; f B = 2; f _ = 3", 3, true},
		{"f A = 1", 2, true},
		{"f U = 1", 1, false},
		{"f (W _ _ _) = 1", 1, false},
		{"f True = 1", 2, true},
		{"f False = 1; f True = 2", 2, false},
		{"f (G _) = 1; f H = 2; f _ = 3", 2, false},
		{"f 0 = 1; f 1 = 2; f (-1) = 3", 4, true},
		{"f 0 = 1; f n = 2", 2, true},
		{"f O = 1; f (J _) = 2", 2, false},
	} {
		l := compiled(t, program(t, c.src))
		body := l[0].Body.Args[0]
		if body.Kind != api.CCase || len(body.Alts) != c.alts {
			t.Error(c.src, text(body))
		}
		for i, a := range body.Alts {
			same(t, c.src, a.Kind == api.AAny, c.any && i == c.alts-1)
		}
	}
}

func TestNoBindings(t *testing.T) {
	l, f := match.Compile(api.Program{})
	same(t, "none", len(l), 0)
	same(t, "none", f, api.Fault{})
	l, f = match.Compile(program(t, ""))
	same(t, "none", len(l), 0)
	same(t, "none", f, api.Fault{})
	_, err := match.Bind(program(t, ""), 0)
	same(t, "none", err, api.ErrArg)
}

// infer's fault is first: those that it finds, and those of the layers below.
func TestFaults(t *testing.T) {
	for _, c := range []struct {
		src string
		err api.Errno
	}{
		{"f x = x + True", api.ErrType},
		{"f x = x x", api.ErrCycle},
		{"f x = y", api.ErrNone},
		{"f x x = 1", api.ErrTwice},
		{"f = 1; f = 2", api.ErrTwice},
		{"f 1 = 2; f 1 2 = 3", api.ErrArity},
		{"f (C x) = 1", api.ErrArity},
		{"(+) x y = x", api.ErrPrim},
		{"f = 1; g = (+) 1 2 3", api.ErrType},
		{"f = 1; g = C 1 N N", api.ErrType},
	} {
		p := program(t, c.src)
		l, f := match.Compile(p)
		_, want := infer.Program(p)
		same(t, c.src, f, want)
		same(t, c.src, f.Err, c.err)
		same(t, c.src, len(l), 0)
		for k := -1; k < 3; k++ {
			d, err := match.Bind(p, k)
			same(t, c.src, err, api.ErrArg)
			same(t, c.src, d, api.Def{})
		}
	}
}

// What is no program has infer's fault, too.
func TestNoPrograms(t *testing.T) {
	one := api.Expr{Kind: api.EInt, N: 1}
	rhs := []api.Rhs{{Body: one}}
	for i, b := range []api.Bind{
		{},
		{Name: "f"},
		{Name: "f", Clauses: []api.Clause{{}}},
		{Name: "F", Clauses: []api.Clause{{Rhs: rhs}}},
		{Name: "f", Clauses: []api.Clause{{Rhs: []api.Rhs{{}}}}},
		{Name: "f", Clauses: []api.Clause{{Rhs: []api.Rhs{{Body: one}, {Body: one}}}}},
		{Name: "f", Clauses: []api.Clause{{Rhs: []api.Rhs{{Guard: []api.Expr{one, one}, Body: one}}}}},
		{Name: "f", Clauses: []api.Clause{{Pats: []api.Pat{{}}, Rhs: rhs}}},
		{Name: "f", Clauses: []api.Clause{{Pats: []api.Pat{{Kind: 9}}, Rhs: rhs}}},
		{Name: "f", Clauses: []api.Clause{{Rhs: []api.Rhs{{Body: api.Expr{Kind: api.EApp, Args: []api.Expr{one}}}}}}},
		{Name: "f", Clauses: []api.Clause{{Rhs: []api.Rhs{{Body: api.Expr{Kind: api.ELam, Args: []api.Expr{one}}}}}}},
		{Name: "f", Clauses: []api.Clause{{Rhs: []api.Rhs{{Body: api.Expr{Kind: api.ELet, Args: []api.Expr{one}}}}}}},
		{Name: "f", Clauses: []api.Clause{{Rhs: []api.Rhs{{Body: api.Expr{Kind: api.ECase, Args: []api.Expr{one}}}}}}},
		{Name: "f", Clauses: []api.Clause{{Rhs: []api.Rhs{{Body: api.Expr{Kind: api.EIf, Args: []api.Expr{one}}}}}}},
		{Name: "f", Clauses: []api.Clause{{Rhs: []api.Rhs{{Body: api.Expr{Kind: -1}}}}}},
	} {
		p := api.Program{Binds: []api.Bind{b}}
		_, want := infer.Program(p)
		l, f := match.Compile(p)
		d, err := match.Bind(p, 0)
		same(t, i, f, want)
		same(t, i, f.Err, api.ErrArg)
		same(t, i, len(l), 0)
		same(t, i, d, api.Def{})
		same(t, i, err, api.ErrArg)
	}
}

// P14.3

func TestBind(t *testing.T) {
	p := program(t, "f 0 = 1; f n = g n; g x = if h then x else 2; h = True")
	l := compiled(t, p)
	for k := -3; k < 7; k++ {
		d, err := match.Bind(p, k)
		if k < 0 || k >= len(l) {
			same(t, k, err, api.ErrArg)
			same(t, k, d, api.Def{})
			continue
		}
		same(t, k, err, api.OK)
		same(t, k, d, l[k])
	}
	for _, k := range []int{math.MinInt, math.MaxInt} {
		_, err := match.Bind(p, k)
		same(t, k, err, api.ErrArg)
	}
}

// P14.4

func TestSize(t *testing.T) {
	leaf := api.Core{Kind: api.CInt}
	two := api.Core{Kind: api.CApp, Args: []api.Core{leaf, leaf}}
	for i, c := range []struct {
		core api.Core
		want int
	}{
		{api.Core{}, 1},
		{api.Core{Kind: api.CVar, Name: "#0"}, 1},
		{api.Core{Kind: api.CGlob, Name: "f"}, 1},
		{leaf, 1},
		{api.Core{Kind: api.CCon, Name: "C", N: 1, Arity: 2}, 1},
		{two, 3},
		{api.Core{Kind: api.CPrim, N: 1, Args: []api.Core{two, leaf}}, 5},
		{api.Core{Kind: api.CFail}, 1},
		{api.Core{Kind: api.CLam, Params: []string{"#0", "#1"}, Args: []api.Core{two}}, 4},
		{api.Core{Kind: api.CLet, Binds: []api.CBind{{Name: "#0", Body: two}, {Name: "#1", Body: leaf}}, Args: []api.Core{two}}, 8},
		{api.Core{Kind: api.CCase, Args: []api.Core{leaf}, Alts: []api.CAlt{{Kind: api.ACon, Params: []string{"#0"}, Body: two}, {Kind: api.AInt, Body: leaf}, {Kind: api.AAny, Body: two}}}, 9},
		{api.Core{Kind: api.CPick, Args: []api.Core{two}, Picks: []api.Choice{{Select: 1, Body: leaf}, {Select: 2, Body: two}}}, 8},
		// All parts count, whatever the kind is.
		{api.Core{Kind: 77, Args: []api.Core{leaf}, Alts: []api.CAlt{{Body: two}}, Binds: []api.CBind{{Body: two}}, Picks: []api.Choice{{Body: two}}}, 11},
		{api.Core{Kind: api.CPick, Picks: []api.Choice{{}}}, 2},
	} {
		same(t, i, match.Size(c.core), c.want)
	}
	for _, kind := range []string{"args", "alts", "binds", "picks"} {
		c := leaf
		const parts = 1 << 16
		for range parts {
			switch kind {
			case "args":
				c = api.Core{Kind: api.CApp, Args: []api.Core{c, leaf}}
			case "alts":
				c = api.Core{Kind: api.CCase, Args: []api.Core{leaf}, Alts: []api.CAlt{{Kind: api.AAny, Body: c}}}
			case "binds":
				c = api.Core{Kind: api.CLet, Args: []api.Core{leaf}, Binds: []api.CBind{{Body: c}}}
			case "picks":
				c = api.Core{Kind: api.CPick, Args: []api.Core{leaf}, Picks: []api.Choice{{Body: c}}}
			}
		}
		same(t, kind, match.Size(c), 2*parts+1)
	}
	same(t, "compiled", match.Size(compiled(t, program(t, "f 0 = 1; f n = f (n - 1)"))[0].Body), 9)
	wide := api.Core{Kind: api.CCase, Args: []api.Core{leaf}, Alts: slices.Repeat([]api.CAlt{{Body: two}}, 5000)}
	same(t, "wide", match.Size(wide), 15002)
}

// P14.5

func TestOtherwiseLaid(t *testing.T) {
	const src = "f (C 0 l) y | y = 1 | g y == 2 = 3; f N _ = let { a = 4; b x = a } in b 5; f l y = case y of { True -> 6; z | z -> 7; _ -> if z then 8 else 9 }; g = \\x -> 10; z = True"
	p := program(t, src)
	want := compiled(t, p)
	same(t, "stripped", compiled(t, parse.Strip(p)), want)
	laid := "f (C 0 l) y | y = 1\n            | (g y) == 2 = (3)\nf (N) (_) = let a = 4\n                b x = a\n            in b 5\n\n\nf l y = case y of\n  True -> 6\n  z | z -> 7\n  _ -> if z -- no\n       then 8 else (((9)))\ng = (\\x -> 10)\nz = True"
	same(t, "laid", compiled(t, program(t, laid)), want)
	again, f := parse.Program(show.Program(p))
	same(t, "written", f, api.Fault{})
	same(t, "written", compiled(t, again), want)
}

// P14.6

func TestOneMore(t *testing.T) {
	const src = "f 0 = g 1; f n = h; g x = let { y = x } in h; h = case f 1 of { 1 -> 2 }"
	want := compiled(t, program(t, src))
	for _, more := range []string{"z = 1", "z x = x", "z (C 0 N) | True = f 1", "z = z", "z = \\x -> h", "n = 1", "y = 2"} {
		for i := range 4 {
			p := program(t, src)
			p.Binds = slices.Insert(p.Binds, i, program(t, more).Binds[0])
			same(t, more, slices.Delete(compiled(t, p), i, i+1), want)
		}
	}
	// Another body of another binding, of another type too.
	for _, other := range []string{"k = 1", "k = True", "k x = x", "k 0 = k 1; k n = N", "k = \\x y -> J x"} {
		got := compiled(t, program(t, "f 0 = 1; f n = case k of { y -> f n }; "+other+"; g x = let { y = k } in f x"))
		same(t, other, text(got[0].Body), `\#0 -> case #0 {0 -> 1; _ -> (f #0)}`)
		same(t, other, text(got[2].Body), `\#0 -> let {#1 = k} in (f #0)`)
	}
}

// What is handed in stays as it is, and what is answered is no part of it, nor of another part.
func TestNewMemory(t *testing.T) {
	p := program(t, "f (C 0 l) (D x y) | True = 1 | False = g x; f N y = let { a = 4; b x = a } in b 5; f l A = case g 1 of { 1 -> 6; z | z == 2 -> 7; _ -> 8 }; f a b = (\\x y -> x) 1 2; g x = x; h = C (1 + 2) N")
	before := fmt.Sprint(p)
	want := compiled(t, p)
	l, _ := match.Compile(p)
	seen := map[any]int{}
	eachSlice(reflect.ValueOf(l), func(v reflect.Value) {
		for i := range v.Len() {
			seen[v.Index(i).Addr().Interface()]++
		}
	})
	for at, n := range seen {
		if n > 1 {
			t.Errorf("%T", at)
		}
	}
	if len(seen) < 60 {
		t.Error(len(seen))
	}
	eachSlice(reflect.ValueOf(l), func(v reflect.Value) {
		for i := range v.Len() {
			v.Index(i).SetZero()
		}
	})
	same(t, "program", fmt.Sprint(p), before)
	same(t, "again", compiled(t, p), want)
	d, _ := match.Bind(p, 0)
	eachSlice(reflect.ValueOf(&d).Elem(), func(v reflect.Value) {
		for i := range v.Len() {
			v.Index(i).SetZero()
		}
	})
	same(t, "program", fmt.Sprint(p), before)
	same(t, "again", compiled(t, p), want)
	c := want[0].Body
	before = text(c)
	match.Size(c)
	same(t, "size", text(c), before)
}

// eachSlice does something with each list that stands in a value; behind it with those in these.
func eachSlice(v reflect.Value, do func(reflect.Value)) {
	switch v.Kind() {
	case reflect.Slice:
		for i := range v.Len() {
			eachSlice(v.Index(i), do)
		}
		do(v)
	case reflect.Struct:
		for i := range v.NumField() {
			eachSlice(v.Field(i), do)
		}
	}
}
