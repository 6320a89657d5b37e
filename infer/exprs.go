package infer

import (
	"changeling/api"
	"changeling/rules"
	"changeling/unify"
)

// expr finds the types of an expression, as long as there is no fault.
func (f *finder) expr(e api.Expr) api.Deriv {
	if f.failed() {
		return api.Deriv{}
	}
	switch e.Kind {
	case api.EVar:
		return f.variable(e)
	case api.ECon:
		return f.con(e)
	case api.EApp:
		return f.app(e)
	case api.ELam:
		return f.lam(e)
	case api.ELet:
		return f.let(e)
	case api.ECase:
		return f.choice(e)
	case api.EIf:
		return f.fork(e)
	}
	return api.Deriv{Type: rules.Int()}
}

// exprAs finds the types of an expression that is to have one.
func (f *finder) exprAs(e api.Expr, typ api.Type) api.Deriv {
	d := f.expr(e)
	f.same(d.Type, typ, e.At)
	return d
}

func (f *finder) variable(e api.Expr) api.Deriv {
	if typ, ok := rules.Operator(e.Name); ok {
		return api.Deriv{Type: typ}
	}
	k := f.names[e.Name]
	if k.typ.Kind == 0 {
		// Layer 11 tells no groups of too many bindings: then their names have no types.
		f.fail(api.ErrType, e.At)
	}
	if k.depth < f.depth {
		f.used[e.Name] = k
	}
	inst := f.fresh(len(k.vars))
	return api.Deriv{Type: unify.Subst(k.typ, k.vars, inst), Inst: inst}
}

func (f *finder) con(e api.Expr) api.Deriv {
	con, _ := f.table.Con(e.Name)
	typ, _ := f.table.Type(e.Name)
	inst := f.fresh(con.Params)
	return api.Deriv{Type: rules.With(typ, inst), Inst: inst}
}

func (f *finder) app(e api.Expr) api.Deriv {
	first := f.expr(e.Args[0])
	second := f.expr(e.Args[1])
	result := f.store.Fresh()
	f.same(first.Type, rules.From([]api.Type{second.Type}, result), e.At)
	return api.Deriv{Type: result, Args: []api.Deriv{first, second}}
}

// lam has a variable for its type, so that types stay small however many lambdas stand in one another.
func (f *finder) lam(e api.Expr) api.Deriv {
	params := f.fresh(len(e.Params))
	var body api.Deriv
	f.with(e.Params, params, func() { body = f.expr(e.Args[0]) })
	whole := f.store.Fresh()
	f.same(whole, rules.From(params, body.Type), e.At)
	return api.Deriv{Type: whole, Args: []api.Deriv{body}}
}

func (f *finder) let(e api.Expr) api.Deriv {
	var body api.Deriv
	groups := f.binds(e.Binds, func() { body = f.expr(e.Args[0]) })
	return api.Deriv{Type: body.Type, Args: []api.Deriv{body}, Groups: groups}
}

func (f *finder) choice(e api.Expr) api.Deriv {
	of := f.expr(e.Args[0])
	d := api.Deriv{Type: f.store.Fresh(), Args: []api.Deriv{of}}
	for _, a := range e.Alts {
		var vars row
		alt := api.DAlt{Pat: f.pat(a.Pat, &vars)}
		f.same(alt.Pat.Type, of.Type, a.Pat.At)
		f.with(vars.names, vars.types, func() { alt.Rhs = f.bodies(a.Rhs, d.Type) })
		d.Alts = append(d.Alts, alt)
	}
	return d
}

func (f *finder) fork(e api.Expr) api.Deriv {
	first := f.exprAs(e.Args[0], rules.Bool())
	second := f.expr(e.Args[1])
	third := f.exprAs(e.Args[2], second.Type)
	return api.Deriv{Type: second.Type, Args: []api.Deriv{first, second, third}}
}
