package deriv

import (
	"changeling/api"
	"changeling/rules"
)

// exprs asks whether the derivations of expressions are right.
func (c *checker) exprs(l []api.Expr, d []api.Deriv) bool {
	if len(d) != len(l) {
		return false
	}
	for i, e := range l {
		if !c.expr(e, d[i]) {
			return false
		}
	}
	return true
}

// expr asks whether the derivation of an expression is right.
func (c *checker) expr(e api.Expr, d api.Deriv) bool {
	if !may(d.Type) || !may(d.Inst...) || !asMany(e, d) {
		return false
	}
	switch e.Kind {
	case api.EVar:
		return c.variable(e.Name, d)
	case api.ECon:
		return c.con(e.Name, d)
	case api.EInt:
		return same(d.Type, rules.Int())
	case api.EApp:
		from, to, ok := parted(d.Args[0].Type)
		return ok && same(from, d.Args[1].Type) && same(to, d.Type) && c.exprs(e.Args, d.Args)
	case api.ELam:
		return c.lam(e, d)
	case api.ELet:
		return same(d.Args[0].Type, d.Type) && c.binds(e.Binds, d.Groups, func() bool { return c.exprs(e.Args, d.Args) })
	case api.ECase:
		return c.choice(e, d)
	}
	return same(d.Args[0].Type, rules.Bool()) && same(d.Args[1].Type, d.Type) && same(d.Args[2].Type, d.Type) && c.exprs(e.Args, d.Args)
}

// asMany asks whether a derivation has as many parts as its expression, and none that its kind has not. (How many of Inst and Groups there are hangs on what is known.)
func asMany(e api.Expr, d api.Deriv) bool {
	switch {
	case len(d.Args) != len(e.Args), len(d.Alts) != len(e.Alts):
		return false
	case len(d.Groups) > 0 && e.Kind != api.ELet:
		return false
	}
	return len(d.Inst) == 0 || e.Kind == api.EVar || e.Kind == api.ECon
}

func (c *checker) variable(name string, d api.Deriv) bool {
	if typ, ok := rules.Operator(name); ok {
		return len(d.Inst) == 0 && same(d.Type, typ)
	}
	k := c.names[name]
	return len(d.Inst) == len(k.Vars) && isInstance(d.Type, k.Scheme, d.Inst)
}

func (c *checker) con(name string, d api.Deriv) bool {
	con, _ := c.table.Con(name)
	typ, _ := c.table.Type(name)
	return len(d.Inst) == con.Params && isWith(d.Type, typ, d.Inst)
}

func (c *checker) lam(e api.Expr, d api.Deriv) bool {
	typ := d.Type
	var vars row
	for _, name := range e.Params {
		from, to, ok := parted(typ)
		if !ok {
			return false
		}
		typ = to
		if name != "_" {
			vars.names = append(vars.names, name)
			vars.types = append(vars.types, from)
		}
	}
	return same(d.Args[0].Type, typ) && c.with(vars.names, ones(vars.types), func() bool { return c.exprs(e.Args, d.Args) })
}

func (c *checker) choice(e api.Expr, d api.Deriv) bool {
	if !c.exprs(e.Args, d.Args) {
		return false
	}
	for i, a := range e.Alts {
		alt := d.Alts[i]
		if !same(alt.Pat.Type, d.Args[0].Type) || !c.bodies([]api.Pat{a.Pat}, []api.DPat{alt.Pat}, a.Rhs, alt.Rhs, d.Type) {
			return false
		}
	}
	return true
}
