package rules_test

import (
	"fmt"
	"reflect"
	"strings"
	"testing"

	"changeling/api"
	"changeling/group"
	"changeling/num"
	"changeling/parse"
	"changeling/rules"
	"changeling/show"
)

func same(t *testing.T, what, got, want any) {
	t.Helper()
	if !reflect.DeepEqual(got, want) {
		t.Errorf("%v: %v, not %v", what, got, want)
	}
}

func program(t *testing.T, src string) api.Program {
	t.Helper()
	p, f := parse.Program(src)
	if f.Err != api.OK {
		t.Fatal(f, src)
	}
	return p
}

func variable(n int) api.Type { return api.Type{Kind: api.KVar, N: n} }

func TestTypes(t *testing.T) {
	same(t, "Int", show.Type(rules.Int()), "Int")
	same(t, "Bool", show.Type(rules.Bool()), "Bool")
	same(t, "from", show.Type(rules.From([]api.Type{rules.Int(), rules.Data("P", rules.Bool(), rules.Int())}, rules.Bool())), "Int -> P Bool Int -> Bool")
	same(t, "from none", rules.From(nil, variable(3)), variable(3))
	for op := 1; op <= 11; op++ {
		ty, ok := rules.Operator(num.Name(op))
		want := "Int -> Int -> Int"
		if num.Rel(op) {
			want = "Int -> Int -> Bool"
		}
		same(t, num.Name(op), show.Type(ty), want)
		same(t, num.Name(op), ok, true)
	}
	for _, name := range []string{"", "!", "x", "=", "+-"} {
		ty, ok := rules.Operator(name)
		same(t, name, ty, api.Type{})
		same(t, name, ok, false)
	}
	same(t, "with", rules.With(rules.Data("P", variable(1), variable(0)), []api.Type{rules.Int(), rules.Bool(), rules.Int()}), rules.Data("P", rules.Bool(), rules.Int()))
}

func TestSchemes(t *testing.T) {
	g := api.DGroup{Members: []int{2, 0}, Vars: []int{1, 4, 3}, Types: []api.Type{rules.From([]api.Type{variable(3), variable(2)}, variable(1)), variable(2)}}
	want := []api.Scheme{{Vars: []int{3, 1}, Type: g.Types[0]}, {Type: variable(2)}}
	same(t, "schemes", fmt.Sprint(rules.Schemes(g)), fmt.Sprint(want))
	same(t, "in order", fmt.Sprint(rules.InOrder(3, []api.DGroup{g})), fmt.Sprint([]api.Scheme{want[1], {}, want[0]}))
}

// nests holds a binding's nests against the groups that layer 11 tells of its ELets, and answers how many there were.
func nests(t *testing.T, b api.Bind, l []rules.Nest) int {
	count := len(l)
	var expr func(api.Expr)
	bodies := func(r []api.Rhs) {
		for _, r := range r {
			for _, g := range r.Guard {
				expr(g)
			}
			expr(r.Body)
		}
	}
	expr = func(e api.Expr) {
		if e.Kind == api.ELet {
			nest := l[0]
			l = l[1:]
			same(t, show.Expr(e), fmt.Sprint(nest.Groups), fmt.Sprint(group.Binds(e.Binds)))
			for i, inner := range e.Binds {
				count += nests(t, inner, nest.Inner[i])
			}
		}
		for _, a := range e.Args {
			expr(a)
		}
		for _, a := range e.Alts {
			bodies(a.Rhs)
		}
	}
	for _, c := range b.Clauses {
		bodies(c.Rhs)
	}
	same(t, b.Name, len(l), 0)
	return count
}

func TestNests(t *testing.T) {
	count := 0
	for _, src := range []string{
		"",
		"x = 1",
		"x = x",
		"a = b; b = c; c = b; d = 1",
		"f x = y; y = f; x = f",
		"f f = f; g = f; h x = let { f = g } in h",
		"f = let { a = b; b = \\a -> a; c = let { a = b; b = a; d = c; e = \\a b -> d } in a } in let { x = y; y = 1 } in x; g = f",
		"a = \\b -> b; b = \\_ -> a; c = case a of { b -> b }; d = case d of { a | a -> b | b -> let { d = a; a = c; c = a } in d; c -> c }",
		"f | let { x = y; y = 1 } in x = let { y = x; x = 1 } in y | True = let { x = 1 } in x; f2 x = let { y = f2; f2 = f } in 2",
		"f = if let { a = 1 } in a then let { b = c; c = 2 } in b else let { d = d; e = d } in e; g = (let { x = y; y = 1 } in x) (let { y = x; x = 1 } in y)",
		"f = case let { a = 1 } in a of { b -> let { c = d; d = 2 } in c; _ -> let { e = e } in e }; g = let { h = let { i = let { j = f; k = i; l = h; f = j } in k; h = i } in f; m = h } in let { n = f; f = n } in n",
		"f (C x y) z = let { x = y; w = x } in w; x = 1; y = x; w = y; data D = C D D",
		"(!) = 1; f = let { (!) = g; g = (!); (?) = 2 } in 3 ! 4; g = f",
	} {
		p := program(t, src)
		nest := rules.NestOf(p.Binds)
		same(t, src, fmt.Sprint(nest.Groups), fmt.Sprint(group.Binds(p.Binds)))
		same(t, src, len(nest.Inner), len(p.Binds))
		for i, b := range p.Binds {
			count += nests(t, b, nest.Inner[i])
		}
	}
	if count < 23 {
		t.Error(count)
	}
}

// Of too many bindings layer 11 tells no groups.
func TestTooMany(t *testing.T) {
	for _, n := range []int{api.MaxTokens, api.MaxTokens + 1} {
		var l []api.Bind
		for i := range n {
			e := api.Expr{Kind: api.ELet, Binds: program(t, "a = b; b = 1").Binds, Args: []api.Expr{{Kind: api.EInt}}}
			l = append(l, api.Bind{Name: "x" + strings.Repeat("y", i%7) + fmt.Sprint(i), Clauses: []api.Clause{{Rhs: []api.Rhs{{Body: e}}}}})
		}
		nest := rules.NestOf(l)
		same(t, fmt.Sprint(n), fmt.Sprint(nest.Groups), fmt.Sprint(group.Binds(l)))
		same(t, fmt.Sprint(n), fmt.Sprint(nest.Inner[n-1]), "[{[[1] [0]] [[] []]}]")
	}
}
