package parse

import (
	"slices"

	"changeling/api"
)

// Strip is a program with all places zero.
func Strip(p api.Program) api.Program {
	return api.Program{
		Datas: each(p.Datas, bareData),
		Fixes: each(p.Fixes, bareFix),
		Binds: each(p.Binds, bareBind),
	}
}

// Bare is an expression with all places zero.
func Bare(e api.Expr) api.Expr {
	e.Params = slices.Clone(e.Params)
	e.Args = each(e.Args, Bare)
	e.Alts = each(e.Alts, bareAlt)
	e.Binds = each(e.Binds, bareBind)
	e.At = api.Pos{}
	return e
}

// each is a list of what each of a list becomes.
func each[T any](l []T, become func(T) T) []T {
	var all []T
	for _, x := range l {
		all = append(all, become(x))
	}
	return all
}

func bareData(d api.Data) api.Data {
	d.Params = slices.Clone(d.Params)
	d.Cons = each(d.Cons, bareConstr)
	d.At = api.Pos{}
	return d
}

func bareConstr(c api.Constr) api.Constr {
	c.Fields = each(c.Fields, newType)
	c.At = api.Pos{}
	return c
}

// newType is a type in new memory: it has no places.
func newType(t api.Type) api.Type {
	t.Args = each(t.Args, newType)
	return t
}

func bareFix(f api.Fix) api.Fix {
	f.At = api.Pos{}
	return f
}

func bareBind(b api.Bind) api.Bind {
	b.Clauses = each(b.Clauses, bareClause)
	b.At = api.Pos{}
	return b
}

func bareClause(c api.Clause) api.Clause {
	return api.Clause{Pats: each(c.Pats, barePat), Rhs: each(c.Rhs, bareRhs)}
}

func bareAlt(a api.Alt) api.Alt {
	return api.Alt{Pat: barePat(a.Pat), Rhs: each(a.Rhs, bareRhs)}
}

func bareRhs(r api.Rhs) api.Rhs {
	return api.Rhs{Guard: each(r.Guard, Bare), Body: Bare(r.Body)}
}

func barePat(p api.Pat) api.Pat {
	p.Args = each(p.Args, barePat)
	p.At = api.Pos{}
	return p
}
