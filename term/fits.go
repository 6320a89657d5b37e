package term

import (
	"changeling/api"
	"changeling/decl"
	"changeling/unify"
)

// Fits tells whether a term fits a type.
func Fits(d *decl.Table, ty api.Type, t api.Term) bool {
	return Right(t) && unify.Right(ty) && fits(d, ty, t)
}

// fits tells of a term and a type that may be whether they fit.
func fits(d *decl.Table, ty api.Type, t api.Term) bool {
	if t.Con == "" {
		return ty.Kind == api.KVar || ty.Kind == api.KCon && ty.Name == "Int" && len(ty.Args) == 0
	}
	c, ok := known(d, t)
	if !ok || ty.Kind != api.KCon || ty.Name != c.Data || len(ty.Args) != c.Params {
		return false
	}
	for i, field := range c.Fields {
		if !fits(d, filled(field, ty.Args), t.Args[i]) {
			return false
		}
	}
	return true
}

// known is a term's constructor, if a table has it with as many fields as the term has.
func known(d *decl.Table, t api.Term) (api.Con, bool) {
	c, ok := d.Con(t.Con)
	return c, ok && len(c.Fields) == len(t.Args)
}

// filled is a field's type with types in the params' places; the zero one, which nothing fits, if it is too large or may not be. What goes into it is looked at ahead, so that it does not grow beyond all bounds.
func filled(field api.Type, params []api.Type) api.Type {
	if !small(field) {
		return api.Type{}
	}
	vars := unify.Vars(field)
	with := make([]api.Type, len(vars))
	for i, n := range vars {
		with[i] = params[n]
	}
	if !all(with, small) {
		return api.Type{}
	}
	whole := unify.Subst(field, vars, with)
	if !small(whole) {
		return api.Type{}
	}
	return whole
}

// small tells whether a type is not too large for a field's.
func small(ty api.Type) bool { return unify.Size(ty) <= api.MaxType }

// Core is a term's core expression.
func Core(d *decl.Table, t api.Term) (api.Core, bool) {
	if !Right(t) {
		return api.Core{}, false
	}
	return core(d, t)
}

func core(d *decl.Table, t api.Term) (api.Core, bool) {
	if t.Con == "" {
		return api.Core{Kind: api.CInt, N: t.N}, true
	}
	con, ok := known(d, t)
	if !ok {
		return api.Core{}, false
	}
	c := api.Core{Kind: api.CCon, Name: con.Name, N: int64(con.Tag), Arity: len(con.Fields)}
	for _, arg := range t.Args {
		a, ok := core(d, arg)
		if !ok {
			return api.Core{}, false
		}
		c = api.Core{Kind: api.CApp, Args: []api.Core{c, a}}
	}
	return c, true
}
