package mutate_test

import (
	"fmt"
	"slices"
	"testing"

	"changeling/api"
	"changeling/infer"
	"changeling/mutate"
)

// P1

func name(s string) api.Expr { return api.Expr{Kind: api.EVar, Name: s} }

func bodies(e api.Expr) []api.Rhs { return []api.Rhs{{Body: e}} }

func single(s string, pats []api.Pat, e api.Expr) api.Bind {
	return api.Bind{Name: s, Clauses: []api.Clause{{Pats: pats, Rhs: bodies(e)}}}
}

func variables(l ...string) []api.Pat {
	var all []api.Pat
	for _, s := range l {
		all = append(all, api.Pat{Kind: api.PVar, Name: s})
	}
	return all
}

func apply(f api.Expr, l ...api.Expr) api.Expr {
	for _, a := range l {
		f = api.Expr{Kind: api.EApp, Args: []api.Expr{f, a}}
	}
	return f
}

func TestDeepExpressions(t *testing.T) {
	t.Parallel()
	yes, x, y := api.Expr{Kind: api.ECon, Name: "True"}, name("x"), name("y")
	choice := func(of api.Expr, l ...api.Alt) api.Expr {
		return api.Expr{Kind: api.ECase, Args: []api.Expr{of}, Alts: l}
	}
	let := func(e api.Expr, l ...api.Bind) api.Expr {
		return api.Expr{Kind: api.ELet, Binds: l, Args: []api.Expr{e}}
	}
	for i, c := range []struct {
		within          func(api.Expr) api.Expr
		sites, rewrites int // of each
	}{
		{func(e api.Expr) api.Expr {
			return apply(api.Expr{Kind: api.ELam, Params: []string{"y"}, Args: []api.Expr{y}}, e)
		}, 3, 0},
		{func(e api.Expr) api.Expr { return apply(name("g"), x, e) }, 4, 0},
		{func(e api.Expr) api.Expr { return let(e, single("y", nil, x)) }, 3, 0},
		{func(e api.Expr) api.Expr { return let(y, single("y", nil, e)) }, 3, 0},
		{func(e api.Expr) api.Expr { return choice(e, api.Alt{Pat: variables("y")[0], Rhs: bodies(y)}) }, 3, 0},
		{func(e api.Expr) api.Expr { return choice(x, api.Alt{Pat: variables("y")[0], Rhs: bodies(e)}) }, 3, 0},
		{func(e api.Expr) api.Expr { return apply(name("+"), e, x) }, 4, 4},
		{func(e api.Expr) api.Expr { return apply(name("-"), x, e) }, 4, 4},
		{func(e api.Expr) api.Expr { return api.Expr{Kind: api.EIf, Args: []api.Expr{yes, e, x}} }, 3, 2},
		{func(e api.Expr) api.Expr {
			return choice(x, api.Alt{Pat: variables("x")[0], Rhs: []api.Rhs{{Guard: []api.Expr{yes}, Body: e}}})
		}, 5, 2},
	} {
		deep := func(n int) api.Program {
			e := x
			for range n {
				e = c.within(e)
			}
			return api.Program{Binds: []api.Bind{single("f", variables("x"), e), single("g", variables("x", "y"), y)}}
		}
		many := 1 << 14
		if c.rewrites > 0 {
			many = 1 << 9
		}
		p := deep(many)
		_, fault := infer.Program(p)
		same(t, fmt.Sprint(i), fault, api.Fault{})
		same(t, fmt.Sprint(i), mutate.Sites(p), many*c.sites+7)
		l, fault := mutate.All(p)
		same(t, fmt.Sprint(i), len(l), 0)
		if c.rewrites > 0 {
			same(t, fmt.Sprint(i), fault.Err, api.ErrLong)
			p = deep(100)
			l, fault = mutate.All(p)
		}
		same(t, fmt.Sprint(i), fault, api.Fault{})
		same(t, fmt.Sprint(i), len(l), 100*c.rewrites)
		same(t, fmt.Sprint(i), len(mutate.Rewrites(p)), 100*c.rewrites)
	}
}

func TestDeepPatterns(t *testing.T) {
	d := api.Type{Kind: api.KCon, Name: "D"}
	datas := []api.Data{{Name: "D", Cons: []api.Constr{{Name: "D", Fields: []api.Type{d, d}}, {Name: "E"}}}}
	for body, few := range map[string]bool{"x": true, "y": false} {
		for _, deep := range []int{200, 1000} {
			p := variables("x")[0]
			for i := range deep {
				args := []api.Pat{{Kind: api.PAny}, p}
				if i%2 == 0 {
					args[0], args[1] = args[1], args[0]
				}
				p = api.Pat{Kind: api.PCon, Name: "D", Args: args}
			}
			f := api.Program{Datas: datas, Binds: []api.Bind{single("f", append(variables("y"), p), name(body))}}
			same(t, body, mutate.Sites(f), 2*deep+4)
			same(t, body, len(mutate.Rewrites(f)), deep)
			l, fault := mutate.All(f)
			switch { // with _ for all of the pattern, f takes what is no D, too; with _ around x there is no x
			case few:
				same(t, body, len(l), 0)
			case deep == 200:
				same(t, body, len(l), deep-1)
			default:
				same(t, body, fault.Err, api.ErrLong)
				continue
			}
			same(t, body, fault, api.Fault{})
		}
	}
}

func TestWide(t *testing.T) {
	t.Parallel()
	integer := func(n int) api.Expr { return api.Expr{Kind: api.EInt, N: int64(n)} }
	sum := single("g", nil, apply(name("+"), integer(0), integer(5)))
	// Of more than 2^11 bindings layer 11 tells no groups.
	for _, n := range []int{api.MaxTokens - 1, api.MaxTokens, 5000} {
		var l []api.Bind
		for i := range n {
			l = append(l, single(fmt.Sprint("f", i), variables("x"), name("x")))
		}
		mutants, fault := mutate.All(api.Program{Binds: append(l, sum)})
		same(t, "bindings", fault, api.Fault{})
		same(t, "bindings", len(mutants), 9)
	}
	// Many clauses and alternatives, all the same.
	f := single("f", variables("x"), name("x"))
	f.Clauses = slices.Repeat(f.Clauses, 700)
	e := api.Expr{Kind: api.ECase, Args: []api.Expr{name("x")}, Alts: slices.Repeat([]api.Alt{{Pat: variables("y")[0], Rhs: bodies(name("y"))}}, 700)}
	p := api.Program{Binds: []api.Bind{f, single("h", variables("x"), e), sum}}
	l, fault := mutate.All(p)
	same(t, "clauses", fault, api.Fault{})
	same(t, "clauses", len(l), 1+1+9)
	same(t, "clauses", mutate.Sites(p), 1+2*700+4+2*700+6)
	same(t, "clauses", len(mutate.Rewrites(p)), 2*(699+700)+10)
}
