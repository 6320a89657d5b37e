package match_test

import (
	"fmt"
	"slices"
	"testing"

	"changeling/api"
	"changeling/match"
)

// P1

func name(s string) api.Expr { return api.Expr{Kind: api.EVar, Name: s} }

func bodies(e api.Expr) []api.Rhs { return []api.Rhs{{Body: e}} }

func single(s string, pats []api.Pat, e api.Expr) api.Bind {
	return api.Bind{Name: s, Clauses: []api.Clause{{Pats: pats, Rhs: bodies(e)}}}
}

func variables(l ...string) []api.Pat {
	var all []api.Pat
	for _, s := range l {
		all = append(all, api.Pat{Kind: api.PVar, Name: s})
	}
	return all
}

// sized is how large the definition of a program's first binding is.
func sized(t *testing.T, p api.Program) int {
	t.Helper()
	l, f := match.Compile(p)
	if f.Err != api.OK || len(l) != len(p.Binds) {
		t.Fatal(f)
	}
	d, err := match.Bind(p, 0)
	same(t, "one", err, api.OK)
	same(t, "one", match.Size(d.Body), match.Size(l[0].Body))
	return match.Size(d.Body)
}

func TestDeepExpressions(t *testing.T) {
	one, yes, x, y := api.Expr{Kind: api.EInt, N: 1}, api.Expr{Kind: api.ECon, Name: "True"}, name("x"), name("y")
	lam := func(e api.Expr, l ...string) api.Expr {
		return api.Expr{Kind: api.ELam, Params: l, Args: []api.Expr{e}}
	}
	let := func(e api.Expr, l ...api.Bind) api.Expr {
		return api.Expr{Kind: api.ELet, Binds: l, Args: []api.Expr{e}}
	}
	choice := func(of api.Expr, l ...api.Alt) api.Expr {
		return api.Expr{Kind: api.ECase, Args: []api.Expr{of}, Alts: l}
	}
	const deep = 1 << 14
	for i, c := range []struct {
		within func(api.Expr) api.Expr
		parts  int // of each
	}{
		{func(e api.Expr) api.Expr { return apply(lam(y, "y"), e) }, 3},
		{func(e api.Expr) api.Expr { return apply(name("+"), e, one) }, 2},
		{func(e api.Expr) api.Expr { return apply(name("-"), one, e) }, 2},
		{func(e api.Expr) api.Expr { return api.Expr{Kind: api.EIf, Args: []api.Expr{yes, e, x}} }, 3},
		{func(e api.Expr) api.Expr { return api.Expr{Kind: api.EIf, Args: []api.Expr{yes, one, e}} }, 3},
		{func(e api.Expr) api.Expr { return let(e, single("y", nil, x)) }, 2},
		{func(e api.Expr) api.Expr { return let(y, single("y", nil, e)) }, 2},
		{func(e api.Expr) api.Expr { return let(apply(y, one), single("y", variables("x"), e)) }, 5},
		{func(e api.Expr) api.Expr {
			return choice(e, api.Alt{Pat: variables("y")[0], Rhs: bodies(apply(name("+"), y, y))})
		}, 4},
		{func(e api.Expr) api.Expr {
			return choice(e, api.Alt{Pat: api.Pat{Kind: api.PInt, N: 2}, Rhs: bodies(x)})
		}, 3},
		{func(e api.Expr) api.Expr {
			return choice(x, api.Alt{Pat: api.Pat{Kind: api.PInt, N: 2}, Rhs: bodies(one)}, api.Alt{Pat: variables("x")[0], Rhs: []api.Rhs{{Guard: []api.Expr{yes}, Body: e}}})
		}, 6},
	} {
		e := x
		for range deep {
			e = c.within(e)
		}
		p := api.Program{Binds: []api.Bind{single("f", variables("x"), apply(name("+"), e, one))}}
		if got := sized(t, p); got < deep*c.parts || got > deep*c.parts+9 {
			t.Error(i, got)
		}
	}
}

func TestDeepPatterns(t *testing.T) {
	d := api.Type{Kind: api.KCon, Name: "D"}
	datas := []api.Data{{Name: "D", Cons: []api.Constr{{Name: "D", Fields: []api.Type{d, d}}, {Name: "E"}}}}
	const deep = 1 << 16
	p := api.Pat{Kind: api.PVar, Name: "x"}
	for i := range deep {
		args := []api.Pat{{Kind: api.PAny}, p}
		if i%2 == 0 {
			args[0], args[1] = args[1], args[0]
		}
		p = api.Pat{Kind: api.PCon, Name: "D", Args: args}
	}
	same(t, "deep", sized(t, api.Program{Datas: datas, Binds: []api.Bind{single("f", []api.Pat{p}, name("x"))}}), 3*deep+2)
	// Each fails where each other one does; what stands behind is there once.
	b := single("f", []api.Pat{p}, name("x"))
	b.Clauses = append(slices.Repeat(b.Clauses, 5), single("f", variables("y"), apply(name("f"), name("y"))).Clauses...)
	same(t, "deep", sized(t, api.Program{Datas: datas, Binds: []api.Bind{b}}) < 4*deep, true)
}

// What is made is no more than some times what it is made of, whatever the patterns are.
func TestNoMoreThanNeeded(t *testing.T) {
	for _, n := range []int{8, 64, 256} {
		// Clause i asks the i-th argument for 0; each other one asks all of those behind.
		b := api.Bind{Name: "f"}
		for i := range n {
			c := api.Clause{Rhs: bodies(apply(name("g"), api.Expr{Kind: api.EInt, N: int64(i)}))}
			for k := range n {
				pat := api.Pat{Kind: api.PAny}
				if k == i || k == (i+1)%n || k == (3*i+5)%n {
					pat = api.Pat{Kind: api.PInt, N: int64((i + k) % 3)}
				}
				c.Pats = append(c.Pats, pat)
			}
			b.Clauses = append(b.Clauses, c)
		}
		// More params than a type may have parts: they stand in a constructor each, then.
		p := api.Program{Binds: []api.Bind{b, single("g", variables("x"), name("x"))}}
		if n > 64 {
			p = packed(p)
		}
		if got := sized(t, p); got > 20*n {
			t.Error(n, got)
		}
	}
	// Constructors in pairs of which each clause leaves out some.
	b := api.Bind{Name: "f"}
	for i := range 200 {
		c := api.Clause{Rhs: bodies(apply(name("g"), api.Expr{Kind: api.EInt, N: int64(i)}))}
		for k := range 12 {
			pat := api.Pat{Kind: api.PAny}
			if (i>>(k%8)+k)%3 == 0 {
				pat = api.Pat{Kind: api.PCon, Name: []string{"True", "False"}[(i+k)%2]}
			}
			c.Pats = append(c.Pats, pat)
		}
		b.Clauses = append(b.Clauses, c)
	}
	p := api.Program{Binds: []api.Bind{b, single("g", variables("x"), name("x"))}}
	if got := sized(t, p); got > 200*40 {
		t.Error(got)
	}
}

// packed is a program whose first binding's patterns are fields of one.
func packed(p api.Program) api.Program {
	b := p.Binds[0]
	fields := slices.Repeat([]api.Type{con("Int")}, len(b.Clauses[0].Pats))
	p.Datas = []api.Data{{Name: "P", Cons: []api.Constr{{Name: "P", Fields: fields}}}}
	for i, c := range b.Clauses {
		b.Clauses[i].Pats = []api.Pat{{Kind: api.PCon, Name: "P", Args: c.Pats}}
	}
	return p
}

func TestWide(t *testing.T) {
	const n = 1 << 13
	one := api.Expr{Kind: api.EInt, N: 1}
	guarded := api.Clause{Pats: variables("x", "y"), Rhs: slices.Repeat([]api.Rhs{{Guard: []api.Expr{name("x")}, Body: name("y")}}, 4)}
	p := api.Program{Binds: []api.Bind{{Name: "f", Clauses: slices.Repeat([]api.Clause{guarded}, n)}}}
	same(t, "guards", sized(t, p), 3*4*n+2)

	// Integers and guards by turns.
	mixed := api.Bind{Name: "f"}
	for i := range n {
		c := guarded
		c.Pats = []api.Pat{{Kind: api.PVar, Name: "x"}, {Kind: api.PInt, N: int64(i)}}
		c.Rhs = bodies(one)
		mixed.Clauses = append(mixed.Clauses, c, api.Clause{Pats: variables("x", "y"), Rhs: guarded.Rhs[:1]})
	}
	same(t, "mixed", sized(t, api.Program{Binds: []api.Bind{mixed}}), 6*n+2)

	// One case of as many integers, in whatever order they stand.
	ints := api.Bind{Name: "f"}
	for i := range n {
		ints.Clauses = append(ints.Clauses, single("f", []api.Pat{{Kind: api.PInt, N: int64(i * 5 % n)}}, one).Clauses...)
	}
	same(t, "integers", sized(t, api.Program{Binds: []api.Bind{ints}}), n+4)

	// One case of as many constructors; one of as many fields.
	cons := api.Program{Datas: []api.Data{{Name: "D"}}, Binds: []api.Bind{{Name: "f"}}}
	var fields []api.Type
	var pats []api.Pat
	for i := range n {
		s := fmt.Sprint("C", i)
		cons.Datas[0].Cons = append(cons.Datas[0].Cons, api.Constr{Name: s})
		cons.Binds[0].Clauses = append(cons.Binds[0].Clauses, single("f", []api.Pat{{Kind: api.PCon, Name: s}}, one).Clauses...)
		fields = append(fields, con("D"))
		pats = append(pats, api.Pat{Kind: api.PCon, Name: s})
	}
	slices.Reverse(cons.Binds[0].Clauses)
	same(t, "constructors", sized(t, cons), n+3)
	cons.Datas = append(cons.Datas, api.Data{Name: "W", Cons: []api.Constr{{Name: "W", Fields: fields}}})
	cons.Binds = []api.Bind{single("f", []api.Pat{{Kind: api.PCon, Name: "W", Args: pats}}, one)}
	same(t, "fields", sized(t, cons), 3*n+4)

	// Bindings side by side, each a definition.
	var many api.Program
	for i := range api.MaxTokens {
		many.Binds = append(many.Binds, single(fmt.Sprint("f", i), variables("x"), name("x")))
	}
	l, f := match.Compile(many)
	same(t, "bindings", f, api.Fault{})
	same(t, "bindings", len(l), api.MaxTokens)
	same(t, "bindings", text(l[api.MaxTokens-1].Body), `\#0 -> #0`)
}
