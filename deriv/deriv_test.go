package deriv_test

import (
	"fmt"
	"reflect"
	"slices"
	"strings"
	"testing"

	"changeling/api"
	"changeling/deriv"
	"changeling/infer"
	"changeling/parse"
	"changeling/show"
)

// datas are declared ahead of the sources here, in one line.
const datas = "data L a = N | C a (L a); data P a b = P a b; data F a b = F (a -> b); data E a = E; "

func same(t *testing.T, what, got, want any) {
	t.Helper()
	if !reflect.DeepEqual(got, want) {
		t.Errorf("%v: %v, not %v", what, got, want)
	}
}

func program(t *testing.T, src string) api.Program {
	t.Helper()
	p, f := parse.Program(datas + "\n" + src)
	if f.Err != api.OK {
		t.Fatal(f, src)
	}
	return p
}

func variable(n int) api.Type { return api.Type{Kind: api.KVar, N: n} }

// typ is a type as a source has it, its variables v0, v1 and so on by their numbers.
func typ(text string) api.Type {
	p, f := parse.Program("data T = T (" + text + ")")
	if f.Err != api.OK {
		panic(text)
	}
	var numbered func(api.Type) api.Type
	numbered = func(ty api.Type) api.Type {
		if ty.Kind == api.KVar {
			n := 0
			fmt.Sscanf(ty.Name, "v%d", &n)
			return variable(n)
		}
		for i, a := range ty.Args {
			ty.Args[i] = numbered(a)
		}
		return ty
	}
	return numbered(p.Datas[0].Cons[0].Fields[0])
}

func typs(l ...string) []api.Type {
	var all []api.Type
	for _, s := range l {
		all = append(all, typ(s))
	}
	return all
}

// ex is an expression's derivation, with its Args'.
func ex(ty string, args ...api.Deriv) api.Deriv { return api.Deriv{Type: typ(ty), Args: args} }

// of is an expression's derivation, with its Inst.
func of(ty string, inst ...string) api.Deriv {
	return api.Deriv{Type: typ(ty), Inst: typs(inst...)}
}

// pt is a pattern's derivation, with its Args'.
func pt(ty string, inst []api.Type, args ...api.DPat) api.DPat {
	return api.DPat{Type: typ(ty), Inst: inst, Args: args}
}

func bodies(l ...api.Deriv) []api.DRhs {
	var all []api.DRhs
	for _, d := range l {
		all = append(all, api.DRhs{Body: d})
	}
	return all
}

func clause(body api.Deriv, pats ...api.DPat) api.DClause {
	return api.DClause{Pats: pats, Rhs: bodies(body)}
}

// alone is a group of the member with a number.
func alone(n int, vars []int, ty string, l ...api.DClause) api.DGroup {
	return api.DGroup{Members: []int{n}, Vars: vars, Types: typs(ty), Binds: []api.DBind{{Clauses: l}}}
}

func typing(l ...api.DGroup) api.Typing { return api.Typing{Groups: l} }

// let is an ELet's derivation.
func let(body api.Deriv, l ...api.DGroup) api.Deriv {
	return api.Deriv{Type: body.Type, Args: []api.Deriv{body}, Groups: l}
}

// P13.1

func TestIdentity(t *testing.T) {
	id := program(t, "id x = x")
	with := func(vars []int, ty, pat, body string) api.Typing {
		return typing(alone(0, vars, ty, clause(ex(body), pt(pat, nil))))
	}
	for _, c := range []struct {
		t    api.Typing
		want api.Errno
	}{
		{with([]int{0}, "v0 -> v0", "v0", "v0"), api.OK}, // the document's examples
		{with(nil, "Int -> Int", "Int", "Int"), api.OK},
		{with(nil, "v0 -> v1", "v0", "v1"), api.ErrDeriv},
		{with([]int{0, 1}, "v0 -> v1", "v0", "v1"), api.ErrDeriv},
		{with(nil, "v0 -> v0", "v0", "v0"), api.OK}, // for none of its variables
		{with([]int{7}, "v7 -> v7", "v7", "v7"), api.OK},
		{with([]int{7}, "v0 -> v0", "v0", "v0"), api.OK},
		{with([]int{9, 7, 8, 0}, "v7 -> v7", "v7", "v7"), api.OK},
		{with([]int{1 << 30}, "v0 -> v0", "v0", "v0"), api.OK},
		{with([]int{1<<30 + 1}, "v0 -> v0", "v0", "v0"), api.ErrDeriv},
		{with([]int{-1}, "v0 -> v0", "v0", "v0"), api.ErrDeriv},
		{with([]int{0, 0}, "v0 -> v0", "v0", "v0"), api.ErrDeriv},
		{with([]int{0, 1, 2, 1}, "v0 -> v0", "v0", "v0"), api.ErrDeriv},
		{with(nil, "L Int -> L Int", "L Int", "L Int"), api.OK},
		{with(nil, "Z v1 -> Z v1", "Z v1", "Z v1"), api.OK}, // which data types there are is not asked
		{with([]int{1, 2}, "(v1 -> v2) -> v1 -> v2", "v1 -> v2", "v1 -> v2"), api.OK},
		{with([]int{0}, "v0 -> v0", "v0", "Int"), api.ErrDeriv},
		{with([]int{0}, "v0 -> v0", "Int", "v0"), api.ErrDeriv},
		{with([]int{0}, "v0 -> Int", "v0", "v0"), api.ErrDeriv},
		{with([]int{0}, "Int -> v0", "v0", "v0"), api.ErrDeriv},
		{with([]int{0}, "v0", "v0", "v0"), api.ErrDeriv},
		{with(nil, "Int", "Int", "Int"), api.ErrDeriv},
		{with(nil, "P Int Int", "Int", "Int"), api.ErrDeriv},
		{with(nil, "Int -> Int -> Int", "Int", "Int"), api.ErrDeriv},
		{typing(), api.ErrDeriv},
		{typing(api.DGroup{}), api.ErrDeriv},
	} {
		same(t, c.t, deriv.Check(id, c.t), c.want)
	}
}

// changes are derivations, each with something that was changed in a right one.
func changes(right func() api.Typing, l ...func(g *api.DGroup, d *api.Deriv)) []api.Typing {
	var all []api.Typing
	for _, change := range l {
		x := right()
		change(&x.Groups[0], &x.Groups[0].Binds[0].Clauses[0].Rhs[0].Body)
		all = append(all, x)
	}
	return all
}

// Each part of a derivation: too few, too many, and what should be empty.
func TestParts(t *testing.T) {
	for _, c := range []struct {
		src    string
		right  func() api.Typing
		change []func(*api.DGroup, *api.Deriv)
	}{
		{"f x = x", func() api.Typing {
			return typing(alone(0, []int{0}, "v0 -> v0", clause(ex("v0"), pt("v0", nil))))
		}, []func(*api.DGroup, *api.Deriv){
			func(g *api.DGroup, d *api.Deriv) { g.Members = nil },
			func(g *api.DGroup, d *api.Deriv) { g.Members = []int{1} },
			func(g *api.DGroup, d *api.Deriv) { g.Members = []int{0, 0} },
			func(g *api.DGroup, d *api.Deriv) { g.Members = []int{-1} },
			func(g *api.DGroup, d *api.Deriv) { g.Types = nil },
			func(g *api.DGroup, d *api.Deriv) { g.Types = append(g.Types, g.Types[0]) },
			func(g *api.DGroup, d *api.Deriv) { g.Types[0] = api.Type{} },
			func(g *api.DGroup, d *api.Deriv) { g.Binds = nil },
			func(g *api.DGroup, d *api.Deriv) { g.Binds = append(g.Binds, g.Binds[0]) },
			func(g *api.DGroup, d *api.Deriv) { g.Binds[0].Clauses = nil },
			func(g *api.DGroup, d *api.Deriv) {
				g.Binds[0].Clauses = append(g.Binds[0].Clauses, g.Binds[0].Clauses[0])
			},
			func(g *api.DGroup, d *api.Deriv) { g.Binds[0].Clauses[0].Pats = nil },
			func(g *api.DGroup, d *api.Deriv) {
				g.Binds[0].Clauses[0].Pats = append(g.Binds[0].Clauses[0].Pats, pt("v0", nil))
			},
			func(g *api.DGroup, d *api.Deriv) { g.Binds[0].Clauses[0].Rhs = nil },
			func(g *api.DGroup, d *api.Deriv) {
				g.Binds[0].Clauses[0].Rhs = append(g.Binds[0].Clauses[0].Rhs, g.Binds[0].Clauses[0].Rhs[0])
			},
			func(g *api.DGroup, d *api.Deriv) {
				g.Binds[0].Clauses[0].Rhs[0].Guard = []api.Deriv{ex("Bool")}
			},
			func(g *api.DGroup, d *api.Deriv) { g.Binds[0].Clauses[0].Pats[0].Inst = typs("v0") },
			func(g *api.DGroup, d *api.Deriv) {
				g.Binds[0].Clauses[0].Pats[0].Args = []api.DPat{pt("v0", nil)}
			},
			func(g *api.DGroup, d *api.Deriv) { d.Inst = typs("v0") },
			func(g *api.DGroup, d *api.Deriv) { d.Args = []api.Deriv{ex("v0")} },
			func(g *api.DGroup, d *api.Deriv) { d.Alts = []api.DAlt{{}} },
			func(g *api.DGroup, d *api.Deriv) { d.Groups = []api.DGroup{{}} },
		}},
		{"f (C 1 _) | x = y\nx = True\ny = E", func() api.Typing {
			c := clause(of("E v5", "v5"), pt("L Int", typs("Int"), pt("Int", nil), pt("L Int", nil)))
			c.Rhs[0].Guard = []api.Deriv{ex("Bool")}
			return typing(alone(1, nil, "Bool", clause(ex("Bool"))), alone(2, []int{3}, "E v3", clause(of("E v3", "v3"))), alone(0, []int{5}, "L Int -> E v5", c))
		}, nil},
		{"f = P 1", func() api.Typing {
			return typing(alone(0, []int{0}, "v0 -> P Int v0", clause(ex("v0 -> P Int v0", of("Int -> v0 -> P Int v0", "Int", "v0"), ex("Int")))))
		}, []func(*api.DGroup, *api.Deriv){
			func(g *api.DGroup, d *api.Deriv) { d.Args = d.Args[:1] },
			func(g *api.DGroup, d *api.Deriv) { d.Args = append(d.Args, ex("Int")) },
			func(g *api.DGroup, d *api.Deriv) { d.Args[0], d.Args[1] = d.Args[1], d.Args[0] },
			func(g *api.DGroup, d *api.Deriv) { d.Args[0].Inst = nil },
			func(g *api.DGroup, d *api.Deriv) { d.Args[0].Inst = d.Args[0].Inst[:1] },
			func(g *api.DGroup, d *api.Deriv) { d.Args[0].Inst = typs("Int", "v0", "v0") },
			func(g *api.DGroup, d *api.Deriv) { d.Args[0].Inst = typs("v0", "Int") },
			func(g *api.DGroup, d *api.Deriv) { d.Args[0].Inst[1] = api.Type{} },
			func(g *api.DGroup, d *api.Deriv) { d.Args[0].Type = typ("Int -> v0 -> P v0 Int") },
			func(g *api.DGroup, d *api.Deriv) { d.Args[1].Type = typ("Bool") },
			func(g *api.DGroup, d *api.Deriv) { d.Args[1].Inst = typs("Int") },
			func(g *api.DGroup, d *api.Deriv) { d.Args[1].Groups = []api.DGroup{{}} },
			func(g *api.DGroup, d *api.Deriv) { d.Inst = typs("Int") },
			func(g *api.DGroup, d *api.Deriv) { d.Alts = []api.DAlt{{}} },
			func(g *api.DGroup, d *api.Deriv) { d.Groups = []api.DGroup{{}} },
		}},
		{"f = \\x _ -> x + 1", func() api.Typing {
			sum := ex("Int", ex("Int -> Int", ex("Int -> Int -> Int"), ex("Int")), ex("Int"))
			return typing(alone(0, []int{4}, "Int -> v4 -> Int", clause(ex("Int -> v4 -> Int", sum))))
		}, []func(*api.DGroup, *api.Deriv){
			func(g *api.DGroup, d *api.Deriv) { d.Type = typ("Int -> v3 -> Int") },
			func(g *api.DGroup, d *api.Deriv) { d.Type = typ("Int -> Int") },
			func(g *api.DGroup, d *api.Deriv) { d.Type, g.Types[0] = typ("Int -> Int"), typ("Int -> Int") },
			func(g *api.DGroup, d *api.Deriv) { d.Type, g.Types[0] = typ("Int"), typ("Int") },
			func(g *api.DGroup, d *api.Deriv) {
				d.Type, g.Types[0] = typ("v4 -> Int -> Int"), typ("v4 -> Int -> Int")
			},
			func(g *api.DGroup, d *api.Deriv) {
				d.Type, g.Types[0] = typ("Int -> v4 -> Int -> Int"), typ("Int -> v4 -> Int -> Int")
			},
			func(g *api.DGroup, d *api.Deriv) { d.Args[0].Args[0].Args[0].Inst = typs("Int") },
			func(g *api.DGroup, d *api.Deriv) { d.Args[0].Args[0].Args[0].Type = typ("Int -> Int -> Bool") },
			func(g *api.DGroup, d *api.Deriv) { d.Args[0].Args[0].Args[1].Type = typ("v4") },
			func(g *api.DGroup, d *api.Deriv) { d.Args = nil },
			func(g *api.DGroup, d *api.Deriv) { d.Args = append(d.Args, ex("Int")) },
			func(g *api.DGroup, d *api.Deriv) { d.Inst = typs("Int") },
			func(g *api.DGroup, d *api.Deriv) { d.Groups = []api.DGroup{{}} },
		}},
		{"f = if True then 1 else 2", func() api.Typing {
			return typing(alone(0, nil, "Int", clause(ex("Int", ex("Bool"), ex("Int"), ex("Int")))))
		}, []func(*api.DGroup, *api.Deriv){
			func(g *api.DGroup, d *api.Deriv) { d.Args[0].Type = typ("Int") },
			func(g *api.DGroup, d *api.Deriv) { d.Args[1].Type = typ("Bool") },
			func(g *api.DGroup, d *api.Deriv) { d.Args[2].Type = typ("Bool") },
			func(g *api.DGroup, d *api.Deriv) { d.Type, g.Types[0] = typ("Bool"), typ("Bool") },
			func(g *api.DGroup, d *api.Deriv) { d.Args = d.Args[:2] },
			func(g *api.DGroup, d *api.Deriv) { d.Args = append(d.Args, ex("Int")) },
			func(g *api.DGroup, d *api.Deriv) { d.Alts = []api.DAlt{{}} },
		}},
		{"f = case N of { C x _ | x -> 1 | True -> 2; _ -> 3 }", func() api.Typing {
			rhs := bodies(ex("Int"), ex("Int"))
			rhs[0].Guard, rhs[1].Guard = []api.Deriv{ex("Bool")}, []api.Deriv{ex("Bool")}
			c := ex("Int", of("L Bool", "Bool"))
			c.Alts = []api.DAlt{{Pat: pt("L Bool", typs("Bool"), pt("Bool", nil), pt("L Bool", nil)), Rhs: rhs}, {Pat: pt("L Bool", nil), Rhs: bodies(ex("Int"))}}
			return typing(alone(0, nil, "Int", clause(c)))
		}, []func(*api.DGroup, *api.Deriv){
			func(g *api.DGroup, d *api.Deriv) { d.Args[0] = of("L Int", "Int") },
			func(g *api.DGroup, d *api.Deriv) { d.Args = nil },
			func(g *api.DGroup, d *api.Deriv) { d.Args = append(d.Args, ex("Int")) },
			func(g *api.DGroup, d *api.Deriv) { d.Alts = d.Alts[:1] },
			func(g *api.DGroup, d *api.Deriv) { d.Alts = nil },
			func(g *api.DGroup, d *api.Deriv) { d.Alts = append(d.Alts, d.Alts[1]) },
			func(g *api.DGroup, d *api.Deriv) { d.Alts[0], d.Alts[1] = d.Alts[1], d.Alts[0] },
			func(g *api.DGroup, d *api.Deriv) { d.Alts[1].Pat.Type = typ("L Int") },
			func(g *api.DGroup, d *api.Deriv) { d.Alts[1].Pat.Inst = typs("Bool") },
			func(g *api.DGroup, d *api.Deriv) { d.Alts[0].Pat.Inst = nil },
			func(g *api.DGroup, d *api.Deriv) { d.Alts[0].Pat.Inst = typs("Bool", "Bool") },
			func(g *api.DGroup, d *api.Deriv) { d.Alts[0].Pat.Inst = typs("Int") },
			func(g *api.DGroup, d *api.Deriv) { d.Alts[0].Pat.Type = typ("P Bool") },
			func(g *api.DGroup, d *api.Deriv) { d.Alts[0].Pat.Args = d.Alts[0].Pat.Args[:1] },
			func(g *api.DGroup, d *api.Deriv) { d.Alts[0].Pat.Args = append(d.Alts[0].Pat.Args, pt("Bool", nil)) },
			func(g *api.DGroup, d *api.Deriv) { d.Alts[0].Pat.Args[0].Type = typ("Int") },
			func(g *api.DGroup, d *api.Deriv) { d.Alts[0].Pat.Args[1].Type = typ("Bool") },
			func(g *api.DGroup, d *api.Deriv) { d.Alts[0].Pat.Args[1].Inst = typs("Bool") },
			func(g *api.DGroup, d *api.Deriv) { d.Alts[0].Rhs = d.Alts[0].Rhs[:1] },
			func(g *api.DGroup, d *api.Deriv) { d.Alts[0].Rhs = append(d.Alts[0].Rhs, d.Alts[0].Rhs[0]) },
			func(g *api.DGroup, d *api.Deriv) { d.Alts[0].Rhs[1].Guard = nil },
			func(g *api.DGroup, d *api.Deriv) {
				d.Alts[0].Rhs[1].Guard = append(d.Alts[0].Rhs[1].Guard, ex("Bool"))
			},
			func(g *api.DGroup, d *api.Deriv) { d.Alts[0].Rhs[1].Guard[0].Type = typ("Int") },
			func(g *api.DGroup, d *api.Deriv) { d.Alts[0].Rhs[1].Body.Type = typ("Bool") },
			func(g *api.DGroup, d *api.Deriv) { d.Alts[1].Rhs[0].Body.Type = typ("Bool") },
			func(g *api.DGroup, d *api.Deriv) { d.Alts[1].Rhs[0].Guard = []api.Deriv{ex("Bool")} },
			func(g *api.DGroup, d *api.Deriv) { d.Type, g.Types[0] = typ("Bool"), typ("Bool") },
			func(g *api.DGroup, d *api.Deriv) { d.Groups = []api.DGroup{{}} },
		}},
		{"f = let { b = a; a = 1 } in b", func() api.Typing {
			return typing(alone(0, nil, "Int", clause(let(ex("Int"), alone(1, nil, "Int", clause(ex("Int"))), alone(0, nil, "Int", clause(ex("Int")))))))
		}, []func(*api.DGroup, *api.Deriv){
			func(g *api.DGroup, d *api.Deriv) { d.Groups[0], d.Groups[1] = d.Groups[1], d.Groups[0] },
			func(g *api.DGroup, d *api.Deriv) { d.Groups = d.Groups[:1] },
			func(g *api.DGroup, d *api.Deriv) { d.Groups = append(d.Groups, d.Groups[1]) },
			func(g *api.DGroup, d *api.Deriv) { d.Groups = nil },
			func(g *api.DGroup, d *api.Deriv) { d.Groups[1].Members = []int{1} },
			func(g *api.DGroup, d *api.Deriv) { d.Groups[0].Types = typs("Bool") },
			func(g *api.DGroup, d *api.Deriv) {
				d.Groups = []api.DGroup{{Members: []int{0, 1}, Types: typs("Int", "Int"), Binds: slices.Concat(d.Groups[1].Binds, d.Groups[0].Binds)}}
			},
			func(g *api.DGroup, d *api.Deriv) { d.Args[0].Inst = typs("Int") },
			func(g *api.DGroup, d *api.Deriv) { d.Args[0].Type = typ("Bool") },
			func(g *api.DGroup, d *api.Deriv) { d.Type, g.Types[0] = typ("Bool"), typ("Bool") },
			func(g *api.DGroup, d *api.Deriv) { d.Args = nil },
			func(g *api.DGroup, d *api.Deriv) { d.Inst = typs("Int") },
			func(g *api.DGroup, d *api.Deriv) { d.Alts = []api.DAlt{{}} },
		}},
	} {
		p := program(t, c.src)
		same(t, c.src, deriv.Check(p, c.right()), api.OK)
		for i, x := range changes(c.right, c.change...) {
			same(t, fmt.Sprint(c.src, ": change ", i), deriv.Check(p, x), api.ErrDeriv)
		}
	}
}

// Derivations by hand of other rules, right and wrong.
func TestByHand(t *testing.T) {
	i := func(vars []int, ty string) api.DGroup {
		return alone(0, vars, ty+" -> "+ty, clause(ex(ty), pt(ty, nil)))
	}
	two := func(vars []int, types []api.Type, a, b api.DClause) api.Typing {
		return typing(api.DGroup{Members: []int{0, 1}, Vars: vars, Types: types, Binds: []api.DBind{{Clauses: []api.DClause{a}}, {Clauses: []api.DClause{b}}}})
	}
	within := func(vars []int, x, ty string) api.Typing {
		// f x = let { g y = x } in g 1
		g := alone(0, vars, "v1 -> "+x, clause(ex(x), pt("v1", nil)))
		use := ex(x, of("Int -> "+x, "Int"), ex("Int"))
		if len(vars) == 0 {
			use = ex(x, ex("v1 -> "+x), ex("Int"))
		}
		return typing(alone(0, []int{0}, ty, clause(let(use, g), pt(x, nil))))
	}
	choice := func(of api.Deriv, pat string, body api.Deriv) api.Deriv {
		return api.Deriv{Type: body.Type, Args: []api.Deriv{of}, Alts: []api.DAlt{{Pat: pt(pat, nil), Rhs: bodies(body)}}}
	}
	// chosen is f = case E of x -> .., in which x has a type.
	chosen := func(x string, body api.Deriv) api.Typing {
		e := api.Deriv{Type: typ(x), Inst: typ(x).Args}
		return typing(alone(0, nil, "Int", clause(choice(e, x, body))))
	}
	hidden := func(v int) api.Typing {
		return chosen("E v3", choice(of("E v4", "v4"), "E v4", let(ex("Int"), alone(0, []int{v}, "Int", clause(ex("Int"))))))
	}
	through := func(vars []int) api.Typing {
		use := ex("E v3")
		if len(vars) > 0 {
			use = of("E Int", "Int")
		}
		inner := api.Deriv{Type: typ("Int"), Args: []api.Deriv{use}, Alts: []api.DAlt{{Pat: api.DPat{Type: use.Type}, Rhs: bodies(ex("Int"))}}}
		g := let(inner, alone(0, vars, "E v3", clause(ex("E v3"))))
		return chosen("E v3", let(choice(ex("Int"), "Int", g), alone(0, nil, "E v3", clause(ex("E v3")))))
	}
	guarded := func(x, guard, body string) api.Typing {
		return typing(alone(0, nil, x+" -> "+body, api.DClause{Pats: []api.DPat{pt(x, nil)}, Rhs: []api.DRhs{{Guard: []api.Deriv{ex(guard)}, Body: ex(body)}}}))
	}
	fork := func(x, y, z, whole string) api.Typing {
		return typing(alone(0, nil, x+" -> "+y+" -> "+z+" -> "+whole, clause(ex(whole, ex(x), ex(y), ex(z)), pt(x, nil), pt(y, nil), pt(z, nil))))
	}
	chosenBy := func(x, z, y, whole string) api.Typing {
		e := api.Deriv{Type: typ(whole), Args: []api.Deriv{ex(x)}, Alts: []api.DAlt{{Pat: pt(z, nil), Rhs: bodies(ex(y))}}}
		return typing(alone(0, nil, x+" -> "+y+" -> "+whole, clause(e, pt(x, nil), pt(y, nil))))
	}
	for n, c := range []struct {
		src  string
		t    api.Typing
		want api.Errno
	}{
		{"", typing(), api.OK},
		{"", typing(api.DGroup{}), api.ErrDeriv},
		{"", typing(i([]int{0}, "v0")), api.ErrDeriv},
		// A name with a scheme has an Inst for each of its variables, in the order in which they stand in its type.
		{"i x = x\nf = i i", typing(i([]int{0}, "v0"), alone(1, []int{3}, "v3 -> v3", clause(ex("v3 -> v3", of("(v3 -> v3) -> v3 -> v3", "v3 -> v3"), of("v3 -> v3", "v3"))))), api.OK},
		{"i x = x\nf = i i", typing(i([]int{0}, "v0"), alone(1, []int{0}, "v0 -> v0", clause(ex("v0 -> v0", of("(v0 -> v0) -> v0 -> v0", "v0 -> v0"), of("v0 -> v0", "v0"))))), api.OK},
		{"i x = x\nf = i i", typing(i([]int{0}, "v0"), alone(1, nil, "Int -> Int", clause(ex("Int -> Int", of("(Int -> Int) -> Int -> Int", "Int -> Int"), of("Int -> Int", "Int"))))), api.OK},
		{"i x = x\nf = i i", typing(i([]int{0}, "v0"), alone(1, nil, "Int -> Int", clause(ex("Int -> Int", of("(Int -> Int) -> Int -> Int", "Int -> Int"), ex("Int -> Int"))))), api.ErrDeriv},
		{"i x = x\nf = i 1", typing(i(nil, "Int"), alone(1, nil, "Int", clause(ex("Int", ex("Int -> Int"), ex("Int"))))), api.OK},
		{"i x = x\nf = i 1", typing(i(nil, "Int"), alone(1, nil, "Int", clause(ex("Int", of("Int -> Int", "Int"), ex("Int"))))), api.ErrDeriv},
		{"i x = x\nf = i 1", typing(i([]int{5}, "Int"), alone(1, nil, "Int", clause(ex("Int", ex("Int -> Int"), ex("Int"))))), api.OK},
		{"i x = x\nf = i 1", typing(i([]int{5}, "Int"), alone(1, nil, "Int", clause(ex("Int", of("Int -> Int", "Int"), ex("Int"))))), api.ErrDeriv},
		{"i x = x\nf = i 1", typing(i(nil, "v0"), alone(1, nil, "Int", clause(ex("Int", ex("Int -> Int"), ex("Int"))))), api.ErrDeriv},
		{"i x = x\nf = i 1", typing(i(nil, "Bool"), alone(1, nil, "Int", clause(ex("Int", ex("Int -> Int"), ex("Int"))))), api.ErrDeriv},
		{"i x = x\nf = i", typing(i(nil, "v0"), alone(1, []int{0}, "v0 -> v0", clause(ex("v0 -> v0")))), api.OK},
		{"k x y = x\nf = k", typing(alone(0, []int{4, 2}, "v2 -> v4 -> v2", clause(ex("v2"), pt("v2", nil), pt("v4", nil))), alone(1, nil, "Int -> Bool -> Int", clause(of("Int -> Bool -> Int", "Int", "Bool")))), api.OK},
		{"k x y = x\nf = k", typing(alone(0, []int{4, 2}, "v2 -> v4 -> v2", clause(ex("v2"), pt("v2", nil), pt("v4", nil))), alone(1, nil, "Int -> Bool -> Int", clause(of("Int -> Bool -> Int", "Bool", "Int")))), api.ErrDeriv},
		{"k x y = x\nf = k", typing(alone(0, []int{4}, "v2 -> v4 -> v2", clause(ex("v2"), pt("v2", nil), pt("v4", nil))), alone(1, nil, "v2 -> Bool -> v2", clause(of("v2 -> Bool -> v2", "Bool")))), api.OK},
		{"k x y = x\nf = k", typing(alone(0, []int{4}, "v2 -> v4 -> v2", clause(ex("v2"), pt("v2", nil), pt("v4", nil))), alone(1, nil, "Int -> Bool -> Int", clause(of("Int -> Bool -> Int", "Bool")))), api.ErrDeriv},
		// A name of a group has one type within it.
		{"f x = f x", typing(alone(0, []int{0, 1}, "v0 -> v1", clause(ex("v1", ex("v0 -> v1"), ex("v0")), pt("v0", nil)))), api.OK},
		{"f x = f x", typing(alone(0, []int{0, 1}, "v0 -> v1", clause(ex("v1", of("v0 -> v1", "v0", "v1"), ex("v0")), pt("v0", nil)))), api.ErrDeriv},
		{"f x = f 1", typing(alone(0, []int{1}, "Int -> v1", clause(ex("v1", ex("Int -> v1"), ex("Int")), pt("Int", nil)))), api.OK},
		{"f x = f 1", typing(alone(0, []int{0, 1}, "v0 -> v1", clause(ex("v1", ex("Int -> v1"), ex("Int")), pt("v0", nil)))), api.ErrDeriv},
		{"a = b; b = a", two([]int{0}, typs("v0", "v0"), clause(ex("v0")), clause(ex("v0"))), api.OK},
		{"a = b; b = a", two([]int{0, 1}, typs("v0", "v1"), clause(ex("v0")), clause(ex("v1"))), api.ErrDeriv},
		{"a = b; b = a", two(nil, typs("L Int", "L Int"), clause(ex("L Int")), clause(ex("L Int"))), api.OK},
		{"a = b; b = a", two([]int{0}, typs("v0"), clause(ex("v0")), clause(ex("v0"))), api.ErrDeriv},
		{"a = b; b = a", typing(alone(0, nil, "Int", clause(ex("Int"))), alone(1, nil, "Int", clause(ex("Int")))), api.ErrDeriv},
		// Groups in their order; those of a program that stand ahead have schemes.
		{"f = i 1\ni x = x", typing(alone(1, []int{0}, "v0 -> v0", clause(ex("v0"), pt("v0", nil))), alone(0, nil, "Int", clause(ex("Int", of("Int -> Int", "Int"), ex("Int"))))), api.OK},
		{"f = i 1\ni x = x", typing(alone(0, nil, "Int", clause(ex("Int", of("Int -> Int", "Int"), ex("Int")))), alone(1, []int{0}, "v0 -> v0", clause(ex("v0"), pt("v0", nil)))), api.ErrDeriv},
		// Vars that are free in the type of a name around that has one type: a pattern's, a lambda's, a group's that is around.
		{"f x = let { g y = x } in g 1", within([]int{1}, "v0", "v0 -> v0"), api.OK},
		{"f x = let { g y = x } in g 1", within([]int{1, 7}, "v0", "v0 -> v0"), api.OK},
		{"f x = let { g y = x } in g 1", within([]int{1}, "Bool", "Bool -> Bool"), api.OK},
		{"f x = let { g y = x } in g 1", within([]int{1}, "v0 -> L v0", "(v0 -> L v0) -> v0 -> L v0"), api.OK},
		{"f x = let { g y = x } in g 1", within(nil, "v0", "v0 -> v0"), api.ErrDeriv},
		{"f x = let { g y = x } in g 1", within([]int{1, 0}, "v0", "v0 -> v0"), api.ErrDeriv},
		{"f x = let { g = 1 } in g", typing(alone(0, nil, "L v3 -> Int", clause(let(ex("Int"), alone(0, []int{3}, "Int", clause(ex("Int")))), pt("L v3", nil)))), api.ErrDeriv},
		{"f x = let { g = 1 } in g", typing(alone(0, nil, "L v3 -> Int", clause(let(ex("Int"), alone(0, []int{2}, "Int", clause(ex("Int")))), pt("L v3", nil)))), api.OK},
		{"f _ = let { g = 1 } in g", typing(alone(0, nil, "Int -> Int", clause(let(ex("Int"), alone(0, []int{3}, "Int", clause(ex("Int")))), pt("Int", nil)))), api.OK},
		{"f = \\x -> let { g = 1 } in g", typing(alone(0, nil, "Int -> Int", clause(ex("Int -> Int", let(ex("Int"), alone(0, []int{3}, "Int", clause(ex("Int")))))))), api.OK},
		{"f = (\\x -> let { g = 1 } in g) E", typing(alone(0, nil, "Int", clause(ex("Int", ex("E v3 -> Int", let(ex("Int"), alone(0, []int{3}, "Int", clause(ex("Int"))))), of("E v3", "v3"))))), api.ErrDeriv},
		{"f = (\\_ -> let { g = 1 } in g) E", typing(alone(0, nil, "Int", clause(ex("Int", ex("E v3 -> Int", let(ex("Int"), alone(0, []int{3}, "Int", clause(ex("Int"))))), of("E v3", "v3"))))), api.OK},
		{"f = let { g = f } in 1", typing(alone(0, nil, "Int", clause(let(ex("Int"), alone(0, []int{3}, "Int", clause(ex("Int"))))))), api.OK},
		{"f = let { g = 1 } in f", typing(alone(0, nil, "v3", clause(let(ex("v3"), alone(0, []int{3}, "Int", clause(ex("Int"))))))), api.ErrDeriv},
		{"f = let { g = 1; h = 2 } in f", typing(alone(0, nil, "v3", clause(let(ex("v3"), alone(0, []int{2}, "Int", clause(ex("Int"))), alone(1, []int{2, 3}, "Int", clause(ex("Int"))))))), api.ErrDeriv},
		{"f = let { g = 1; h = 2 } in f", typing(alone(0, []int{3}, "v3", clause(let(ex("v3"), alone(0, []int{2}, "Int", clause(ex("Int"))), alone(1, []int{2}, "Int", clause(ex("Int"))))))), api.OK},
		// Those of a name that has a scheme may be.
		{"i x = x\nf = let { g = i } in g", typing(i(nil, "v0"), alone(1, nil, "Int -> Int", clause(let(of("Int -> Int", "Int"), alone(0, []int{0}, "v0 -> v0", clause(ex("v0 -> v0"))))))), api.OK},
		{"i x = x\nf = let { g = i } in g", typing(i([]int{0}, "v0"), alone(1, nil, "Int -> Int", clause(let(of("Int -> Int", "Int"), alone(0, []int{0}, "v0 -> v0", clause(of("v0 -> v0", "v0"))))))), api.OK},
		// Those of a name that is hidden by another one may be: be it a pattern's, or one of bindings that stand around.
		{"f = case E of x -> case E of x -> let { g = 1 } in g", hidden(3), api.OK},
		{"f = case E of x -> case E of x -> let { g = 1 } in g", hidden(4), api.ErrDeriv},
		{"f = case E of x -> let { x = 1 } in x", chosen("E v3", let(ex("Int"), alone(0, []int{3}, "Int", clause(ex("Int"))))), api.ErrDeriv},
		{"f = case E of x -> let { x = let { g = 1 } in g } in x", chosen("E v3", let(ex("Int"), alone(0, nil, "Int", clause(let(ex("Int"), alone(0, []int{3}, "Int", clause(ex("Int")))))))), api.OK},
		{"f = case E of x -> let { y = let { g = 1 } in g; x = 1 } in x", chosen("E v3", let(ex("Int"), alone(0, nil, "Int", clause(let(ex("Int"), alone(0, []int{3}, "Int", clause(ex("Int")))))), alone(1, nil, "Int", clause(ex("Int"))))), api.OK},
		{"f = case E of x -> let { y = let { g = 1 } in g; z = 1 } in z", chosen("E v3", let(ex("Int"), alone(0, nil, "Int", clause(let(ex("Int"), alone(0, []int{3}, "Int", clause(ex("Int")))))), alone(1, nil, "Int", clause(ex("Int"))))), api.ErrDeriv},
		// But not where a name with a scheme that is not for all of these is still there.
		{"f = case E of x -> let { y = x } in case 1 of x -> let { g = y } in case g of { g -> 1 }", through(nil), api.OK},
		{"f = case E of x -> let { y = x } in case 1 of x -> let { g = y } in case g of { g -> 1 }", through([]int{3}), api.ErrDeriv},
		// All else is right, but one rule: of a guard, a body, a pattern, an expression.
		{"f x | x = 1", guarded("Bool", "Bool", "Int"), api.OK},
		{"f x | x = 1", guarded("Int", "Int", "Int"), api.ErrDeriv},
		{"f x | x = x", guarded("Bool", "Bool", "Bool"), api.OK},
		{"f x | x = x", typing(alone(0, nil, "Bool -> Int", api.DClause{Pats: []api.DPat{pt("Bool", nil)}, Rhs: []api.DRhs{{Guard: []api.Deriv{ex("Bool")}, Body: ex("Bool")}}})), api.ErrDeriv},
		{"f 1 = 2", typing(alone(0, nil, "Int -> Int", clause(ex("Int"), pt("Int", nil)))), api.OK},
		{"f 1 = 2", typing(alone(0, nil, "Bool -> Int", clause(ex("Int"), pt("Bool", nil)))), api.ErrDeriv},
		{"f 1 = 2", typing(alone(0, nil, "Int -> Bool", clause(ex("Bool"), pt("Int", nil)))), api.ErrDeriv},
		{"f x = 1; f y = 2", typing(alone(0, nil, "Int -> Int", clause(ex("Int"), pt("Int", nil)), clause(ex("Int"), pt("Int", nil)))), api.OK},
		{"f x = 1; f y = 2", typing(alone(0, nil, "Int -> Int", clause(ex("Int"), pt("Int", nil)), clause(ex("Int"), pt("Bool", nil)))), api.ErrDeriv},
		{"f (C x y) = x", typing(alone(0, nil, "L Int -> Int", clause(ex("Int"), pt("L Int", typs("Int"), pt("Int", nil), pt("L Int", nil))))), api.OK},
		{"f (C x y) = x", typing(alone(0, nil, "L Int -> Bool", clause(ex("Bool"), pt("L Int", typs("Int"), pt("Bool", nil), pt("L Int", nil))))), api.ErrDeriv},
		{"f (C x y) = x", typing(alone(0, nil, "L Int -> Int", clause(ex("Int"), pt("L Int", typs("Int"), pt("Int", nil), pt("L Bool", nil))))), api.ErrDeriv},
		{"f (C x y) = x", typing(alone(0, nil, "E Int -> Int", clause(ex("Int"), pt("E Int", typs("Int"), pt("Int", nil), pt("L Int", nil))))), api.ErrDeriv},
		{"f (C x y) = x", typing(alone(0, nil, "L Bool -> Int", clause(ex("Int"), pt("L Bool", typs("Int"), pt("Int", nil), pt("L Int", nil))))), api.ErrDeriv},
		{"f x = C x N", typing(alone(0, nil, "Int -> L Int", clause(ex("L Int", ex("L Int -> L Int", of("Int -> L Int -> L Int", "Int"), ex("Int")), of("L Int", "Int")), pt("Int", nil)))), api.OK},
		{"f x = C x N", typing(alone(0, nil, "Int -> L Int", clause(ex("L Int", ex("L Bool -> L Int", of("Int -> L Bool -> L Int", "Int"), ex("Int")), of("L Bool", "Bool")), pt("Int", nil)))), api.ErrDeriv},
		{"f x y = x y", typing(alone(0, nil, "(Int -> Bool) -> Int -> Bool", clause(ex("Bool", ex("Int -> Bool"), ex("Int")), pt("Int -> Bool", nil), pt("Int", nil)))), api.OK},
		{"f x y = x y", typing(alone(0, nil, "(Int -> Bool) -> Bool -> Bool", clause(ex("Bool", ex("Int -> Bool"), ex("Bool")), pt("Int -> Bool", nil), pt("Bool", nil)))), api.ErrDeriv},
		{"f x y = x y", typing(alone(0, nil, "(Int -> Bool) -> Int -> Int", clause(ex("Int", ex("Int -> Bool"), ex("Int")), pt("Int -> Bool", nil), pt("Int", nil)))), api.ErrDeriv},
		{"f x y = x y", typing(alone(0, nil, "P Int Bool -> Int -> Bool", clause(ex("Bool", ex("P Int Bool"), ex("Int")), pt("P Int Bool", nil), pt("Int", nil)))), api.ErrDeriv},
		{"f = \\x -> x", typing(alone(0, nil, "Int -> Int", clause(ex("Int -> Int", ex("Int"))))), api.OK},
		{"f = \\x -> x", typing(alone(0, nil, "Int -> Bool", clause(ex("Int -> Bool", ex("Int"))))), api.ErrDeriv},
		{"f = \\x -> x", typing(alone(0, nil, "Bool -> Int", clause(ex("Bool -> Int", ex("Int"))))), api.ErrDeriv},
		{"f = (+)", typing(alone(0, nil, "Int -> Int -> Int", clause(ex("Int -> Int -> Int")))), api.OK},
		{"f = (+)", typing(alone(0, nil, "Int -> Int -> Bool", clause(ex("Int -> Int -> Bool")))), api.ErrDeriv},
		{"f = (<)", typing(alone(0, nil, "Int -> Int -> Bool", clause(ex("Int -> Int -> Bool")))), api.OK},
		{"f = (<)", typing(alone(0, nil, "Bool -> Bool -> Bool", clause(ex("Bool -> Bool -> Bool")))), api.ErrDeriv},
		{"f = let { x = 1 } in x", typing(alone(0, nil, "Bool", clause(api.Deriv{Type: typ("Bool"), Args: []api.Deriv{ex("Int")}, Groups: []api.DGroup{alone(0, nil, "Int", clause(ex("Int")))}}))), api.ErrDeriv},
		{"f x y z = if x then y else z", fork("Bool", "Int", "Int", "Int"), api.OK},
		{"f x y z = if x then y else z", fork("Int", "Int", "Int", "Int"), api.ErrDeriv},
		{"f x y z = if x then y else z", fork("Bool", "Bool", "Int", "Int"), api.ErrDeriv},
		{"f x y z = if x then y else z", fork("Bool", "Int", "Bool", "Int"), api.ErrDeriv},
		{"f x y z = if x then y else z", fork("Bool", "Int", "Int", "Bool"), api.ErrDeriv},
		{"f x y = case x of z -> y", chosenBy("Int", "Int", "Bool", "Bool"), api.OK},
		{"f x y = case x of z -> y", chosenBy("Int", "Bool", "Bool", "Bool"), api.ErrDeriv},
		{"f x y = case x of z -> y", chosenBy("Int", "Int", "Bool", "Int"), api.ErrDeriv},
		// Names that are hidden have the type of what is further in, and theirs again behind it.
		{"f x y = P ((\\x -> x) True) x", typing(alone(0, nil, "Int -> Int -> P Bool Int", clause(ex("P Bool Int", ex("Int -> P Bool Int", of("Bool -> Int -> P Bool Int", "Bool", "Int"), ex("Bool", ex("Bool -> Bool", ex("Bool")), ex("Bool"))), ex("Int")), pt("Int", nil), pt("Int", nil)))), api.OK},
		{"f x y = P ((\\x -> x) True) x", typing(alone(0, nil, "Int -> Int -> P Int Int", clause(ex("P Int Int", ex("Int -> P Int Int", of("Int -> Int -> P Int Int", "Int", "Int"), ex("Int", ex("Bool -> Int", ex("Int")), ex("Bool"))), ex("Int")), pt("Int", nil), pt("Int", nil)))), api.ErrDeriv},
	} {
		p := program(t, c.src)
		same(t, fmt.Sprint(n, ": ", c.src), deriv.Check(p, c.t), c.want)
		l, err := deriv.Schemes(p, c.t)
		same(t, c.src, err, c.want)
		if err == api.OK && len(l) != len(p.Binds) || err != api.OK && len(l) > 0 {
			t.Error(c.src, l)
		}
	}
}

// nested is a type of a size.
func nested(size int, end api.Type) api.Type {
	for range size - 1 {
		end = api.Type{Kind: api.KCon, Name: "L", Args: []api.Type{end}}
	}
	return end
}

func TestSizes(t *testing.T) {
	for _, end := range []api.Type{variable(0), typ("Int")} {
		for size, want := range map[int]api.Errno{1: api.OK, api.MaxType: api.OK, api.MaxType + 1: api.ErrDeriv, 1 << 16: api.ErrDeriv} {
			ty := nested(size, end)
			x := api.Deriv{Type: ty}
			g := api.DGroup{Members: []int{0}, Types: []api.Type{ty}, Binds: []api.DBind{{Clauses: []api.DClause{{Rhs: bodies(x)}}}}}
			same(t, size, deriv.Check(program(t, "x = x"), typing(g)), want)
			// A member's type that has room, and an ELet's member's that has none.
			in := alone(0, nil, "Int", clause(let(ex("Int"), g)))
			same(t, size, deriv.Check(program(t, "f = let { x = x } in 1"), typing(in)), want)
			// An Arg's, a pattern's, an Inst's.
			inst := []api.Type{nested(max(size-1, 1), end)}
			whole := api.Type{Kind: api.KCon, Name: "E", Args: inst}
			c := api.Deriv{Type: typ("Int"), Args: []api.Deriv{{Type: whole, Inst: inst}}, Alts: []api.DAlt{{Pat: api.DPat{Type: whole, Inst: inst}, Rhs: bodies(ex("Int"))}}}
			same(t, size, deriv.Check(program(t, "f = case E of E -> 1"), typing(alone(0, nil, "Int", clause(c)))), want)
		}
	}
}

// Types that may not be, at each place.
func TestNoTypes(t *testing.T) {
	p := program(t, "f x = case E of { y -> let { g = x } in 1 }")
	for _, bad := range []api.Type{{}, {Kind: 4}, {Kind: -1}, {Kind: api.KVar, N: -1}, {Kind: api.KVar, N: 1<<30 + 1}, {Kind: api.KVar, Name: "a"}, {Kind: api.KCon}, {Kind: api.KCon, Name: "Int", N: 1}, {Kind: api.KFun}, {Kind: api.KFun, Args: typs("Int")}, {Kind: api.KFun, Args: typs("Int", "Int", "Int")}, {Kind: api.KFun, Name: "F", Args: typs("Int", "Int")}, {Kind: api.KFun, N: 1, Args: typs("Int", "Int")}, {Kind: api.KCon, Name: "L", Args: []api.Type{{}}}} {
		for _, ty := range []api.Type{typ("L Int"), bad} {
			whole := api.Type{Kind: api.KCon, Name: "E", Args: []api.Type{ty}}
			g := alone(0, nil, "Int", clause(api.Deriv{Type: ty}))
			g.Types[0] = ty
			c := api.Deriv{Type: typ("Int"), Args: []api.Deriv{{Type: whole, Inst: []api.Type{ty}}}, Alts: []api.DAlt{{Pat: api.DPat{Type: whole}, Rhs: bodies(let(ex("Int"), g))}}}
			f := api.DGroup{Members: []int{0}, Types: []api.Type{{Kind: api.KFun, Args: []api.Type{ty, typ("Int")}}}, Binds: []api.DBind{{Clauses: []api.DClause{{Pats: []api.DPat{{Type: ty}}, Rhs: bodies(c)}}}}}
			want := api.OK
			if ty.Kind != api.KCon || ty.Name != "L" || ty.Args[0].Kind == 0 {
				want = api.ErrDeriv
			}
			same(t, ty, deriv.Check(p, typing(f)), want)
		}
	}
}

func TestScopeFirst(t *testing.T) {
	for _, src := range []string{"f = x", "f x x = 1", "f = 1; g = 2; f = 3", "(+) a b = 1", "f (C x) = 1", "f = Z"} {
		p := program(t, src)
		for _, x := range []api.Typing{typing(), typing(alone(0, nil, "Int", clause(ex("Int")))), typing(api.DGroup{})} {
			same(t, src, deriv.Check(p, x), api.ErrArg)
			l, err := deriv.Schemes(p, x)
			same(t, src, err, api.ErrArg)
			same(t, src, len(l), 0)
		}
	}
	same(t, "no clauses", deriv.Check(api.Program{Binds: []api.Bind{{Name: "f"}}}, typing()), api.ErrArg)
	same(t, "no kind", deriv.Check(api.Program{Binds: []api.Bind{{Name: "f", Clauses: []api.Clause{{Rhs: []api.Rhs{{}}}}}}}, typing()), api.ErrArg)
}

// P13.2

func TestInstance(t *testing.T) {
	for _, c := range []struct {
		vars    []int
		ty, is  string
		another bool
	}{
		{nil, "Int", "Int", true},
		{nil, "Int", "Bool", false},
		{nil, "Int", "v0", false},
		{nil, "v0", "v0", true},
		{nil, "v0", "v1", false},
		{nil, "v0", "Int", false},
		{[]int{0}, "v0", "v0", true},
		{[]int{0}, "v0", "v1", true},
		{[]int{0}, "v0", "Int", true},
		{[]int{0}, "v0", "L v0 -> v0", true},
		{[]int{1}, "v0", "v0", true},
		{[]int{1}, "v0", "v1", false},
		{[]int{1}, "v0", "Int", false},
		{[]int{0}, "v0 -> v0", "Int -> Int", true},
		{[]int{0}, "v0 -> v0", "Int -> Bool", false},
		{[]int{0}, "v0 -> v0", "v0 -> v1", false},
		{[]int{0}, "v0 -> v0", "(v0 -> v0) -> v0 -> v0", true},
		{[]int{0}, "v0 -> v0", "(v0 -> v0) -> v0 -> v1", false},
		{[]int{0}, "v0 -> v0", "v0", false},
		{[]int{0}, "v0 -> v0", "P v0 v0", false},
		{[]int{0, 1}, "v0 -> v1", "v1 -> v0", true},
		{[]int{0, 1}, "v0 -> v1", "v1 -> v1", true},
		{[]int{0, 1}, "v0 -> v1 -> v0", "v1 -> v0 -> v1", true},
		{[]int{0, 1}, "v0 -> v1 -> v0", "v1 -> v1 -> v0", false},
		{[]int{1, 0, 1, 7, -4, 1 << 40}, "v0 -> v1", "Int -> Bool", true},
		{[]int{0}, "v0 -> v1", "Int -> v1", true},
		{[]int{0}, "v0 -> v1", "Int -> Int", false},
		{[]int{0}, "v0 -> v1", "Int -> v0", false},
		{[]int{0}, "v0 -> v1", "v1 -> v1", true},
		{[]int{0}, "L v0", "L (L v0)", true},
		{[]int{0}, "L v0", "E v0", false},
		{[]int{0}, "P v0 v0", "P (L Int) (L Int)", true},
		{[]int{0}, "P v0 v0", "P (L Int) (L Bool)", false},
		{[]int{0}, "P (L v0) v0", "P (L (L Int)) (L Int)", true},
		{[]int{0}, "Z v0", "Z Int", true},
	} {
		same(t, fmt.Sprint(c.vars, c.ty, c.is), deriv.Instance(api.Scheme{Vars: c.vars, Type: typ(c.ty)}, typ(c.is)), c.another)
	}
	// Of types that may not be none is one.
	for _, bad := range []api.Type{{}, {Kind: 4}, {Kind: api.KVar, N: -1}, {Kind: api.KVar, N: 1<<30 + 1}, {Kind: api.KVar, Name: "a"}, {Kind: api.KCon}, {Kind: api.KFun, Args: typs("Int")}, {Kind: api.KCon, Name: "L", Args: []api.Type{{}}}} {
		for _, s := range []api.Scheme{{Type: bad}, {Vars: []int{0, -1}, Type: bad}, {Vars: []int{0}, Type: variable(0)}} {
			same(t, bad, deriv.Instance(s, bad), false)
		}
		same(t, bad, deriv.Instance(api.Scheme{Vars: []int{0}, Type: bad}, typ("Int")), false)
	}
	// No size is too large.
	for _, size := range []int{api.MaxType, api.MaxType + 1, 1 << 16} {
		ty := nested(size, typ("Int"))
		same(t, size, deriv.Instance(api.Scheme{Vars: []int{0}, Type: typ("P v0 v0")}, api.Type{Kind: api.KCon, Name: "P", Args: []api.Type{ty, ty}}), true)
		same(t, size, deriv.Instance(api.Scheme{Vars: []int{0}, Type: typ("P v0 v0")}, api.Type{Kind: api.KCon, Name: "P", Args: []api.Type{ty, nested(size, variable(3))}}), false)
		same(t, size, deriv.Instance(api.Scheme{Vars: []int{0}, Type: nested(size, variable(0))}, ty), true)
		same(t, size, deriv.Instance(api.Scheme{Vars: []int{0}, Type: nested(size+1, variable(0))}, ty), false)
	}
}

// P13.3

func TestSchemes(t *testing.T) {
	p := program(t, "f x = k x g\ng = h\nh = N\nk x y = f x")
	x := typing(
		alone(2, []int{9, 4}, "L v4", clause(of("L v4", "v4"))),
		alone(1, nil, "L v2", clause(of("L v2", "v2"))),
		api.DGroup{Members: []int{0, 3}, Vars: []int{8, 7, 6, 5}, Types: typs("v5 -> v6", "v5 -> L v2 -> v6"), Binds: []api.DBind{
			{Clauses: []api.DClause{clause(ex("v6", ex("L v2 -> v6", ex("v5 -> L v2 -> v6"), ex("v5")), ex("L v2")), pt("v5", nil))}},
			{Clauses: []api.DClause{clause(ex("v6", ex("v5 -> v6"), ex("v5")), pt("v5", nil), pt("L v2", nil))}}}},
	)
	same(t, "check", deriv.Check(p, x), api.OK)
	want := []api.Scheme{{Vars: []int{5, 6}, Type: typ("v5 -> v6")}, {Type: typ("L v2")}, {Vars: []int{4}, Type: typ("L v4")}, {Vars: []int{5, 6}, Type: typ("v5 -> L v2 -> v6")}}
	before := fmt.Sprint(p, x)
	l, err := deriv.Schemes(p, x)
	same(t, "error", err, api.OK)
	same(t, "schemes", fmt.Sprint(l), fmt.Sprint(want))
	l[0].Vars[0], l[0].Type.Args[0], l[3].Type.Args[1].Args[0].Args[0] = 77, typ("Bool"), typ("Bool")
	same(t, "what was handed in", fmt.Sprint(p, x), before)
	l, _ = deriv.Schemes(p, x)
	same(t, "again", fmt.Sprint(l), fmt.Sprint(want))
	x.Groups[0].Types[0] = typ("L Int")
	l, err = deriv.Schemes(p, x)
	same(t, "error", err, api.ErrDeriv)
	same(t, "schemes", len(l), 0)
	l, err = deriv.Schemes(program(t, ""), typing())
	same(t, "none", err, api.OK)
	same(t, "none", len(l), 0)
}

// P1

func TestDeep(t *testing.T) {
	const depth = 1 << 15
	e, x := api.Expr{Kind: api.EVar, Name: "x"}, ex("Int")
	pat, dPat := api.Pat{Kind: api.PAny}, pt("Int", nil)
	for range depth {
		e = api.Expr{Kind: api.ELet, Args: []api.Expr{{Kind: api.EInt}}, Binds: []api.Bind{{Name: "y", Clauses: []api.Clause{{Rhs: []api.Rhs{{Body: e}}}}}}}
		x = let(ex("Int"), alone(0, nil, "Int", clause(x)))
		pat = api.Pat{Kind: api.PCon, Name: "D", Args: []api.Pat{pat}}
		dPat = pt("D", nil, dPat)
	}
	d := typ("D")
	p := api.Program{Datas: []api.Data{{Name: "D", Cons: []api.Constr{{Name: "D", Fields: []api.Type{d}}}}}}
	p.Binds = []api.Bind{{Name: "f", Clauses: []api.Clause{{Pats: []api.Pat{pat, {Kind: api.PVar, Name: "x"}}, Rhs: []api.Rhs{{Body: e}}}}}}
	same(t, "deep", deriv.Check(p, typing(alone(0, nil, "D -> Int -> Int", clause(x, dPat, pt("Int", nil))))), api.ErrDeriv)
	for inner := &dPat; ; inner = &inner.Args[0] {
		if len(inner.Args) == 0 {
			inner.Type = d
			break
		}
	}
	same(t, "deep", deriv.Check(p, typing(alone(0, nil, "D -> Int -> Int", clause(x, dPat, pt("Int", nil))))), api.OK)
	same(t, "deep", deriv.Check(p, typing(alone(0, nil, "D -> Bool -> Int", clause(x, dPat, pt("Bool", nil))))), api.ErrDeriv)
}

// P13.4

func TestFoundIsRight(t *testing.T) {
	for _, src := range sources {
		p := program(t, src)
		x, f := infer.Program(p)
		if f.Err != api.OK {
			t.Fatal(src, f)
		}
		same(t, src, deriv.Check(p, x), api.OK)
		found, _ := infer.Schemes(p)
		l, err := deriv.Schemes(p, x)
		same(t, src, err, api.OK)
		for i, s := range l {
			if !deriv.Instance(found[i], s.Type) || !deriv.Instance(s, found[i].Type) || len(s.Vars) != len(found[i].Vars) {
				t.Error(src, s, found[i])
			}
		}
		same(t, show.Program(p), deriv.Check(parse.Strip(p), x), api.OK)
	}
}

// sources have types.
var sources = strings.Split(strings.TrimSpace(`
id x = x
f (C x xs) (P y 1) | x == y = f xs (P 2 3) | x < y = N; f _ _ = C True N
map f N = N; map f (C x xs) = C (f x) (map f xs); all = map (\x -> x + 1) (C 1 N)
k x _ = x; s f g x = f x (g x); i = s k k; j = P (i 1) (i True)
even n = if n == 0 then True else odd (n - 1); odd n = if n == 0 then False else even (n - 1); e = even 7
f x = let { g y = P x y; h = g } in P (h 1) (g True); m = f N
f x = case x of { P (C a _) b | a -> b; P _ b -> b; y -> E }
f = \x _ y -> let { x = y; z w = x } in z (let { q = q } in q)
a = b; b = C c N; c = let { d x = e x; e x = d x } in d 1; (!) x y = x y
f x = let { g y = let { h z = P x (P y z) } in P (h 1) (h True) } in g x
f (F g) x = g x; u = f (F (\y -> y + 1)) 2
f x | True = let { y = x } in let { x = N } in P x y
f = let { p = E; q x = p; r = q p } in P r (q 1); g x y = g y x
x = y; y = let { z = x } in z; w = w
f x = \x -> let { y = x } in \x -> let { z = y } in P z x
f g = if g 1 then g else \x -> let { y = g x } in y; h = f (\x -> x < 2)
o f g x = f (g x); t = o (\x -> x) (o (\y -> y)); r = t (\z -> C z N) 1
`), "\n")
