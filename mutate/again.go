package mutate

import (
	"slices"

	"changeling/api"
)

// again is a mutant once more, in new memory.
func again(m api.Mutant) api.Mutant {
	p := m.Program
	m.Program = api.Program{Datas: all(p.Datas, againData), Fixes: slices.Clone(p.Fixes), Binds: all(p.Binds, againBind)}
	return m
}

// all is a list of what each of a list becomes.
func all[T any](l []T, become func(T) T) []T {
	if len(l) == 0 {
		return nil
	}
	r := make([]T, len(l))
	for i, x := range l {
		r[i] = become(x)
	}
	return r
}

func againData(d api.Data) api.Data {
	d.Params = slices.Clone(d.Params)
	d.Cons = all(d.Cons, againConstr)
	return d
}

func againConstr(c api.Constr) api.Constr {
	c.Fields = all(c.Fields, againType)
	return c
}

func againType(t api.Type) api.Type {
	t.Args = all(t.Args, againType)
	return t
}

func againBind(b api.Bind) api.Bind {
	b.Clauses = all(b.Clauses, againClause)
	return b
}

func againClause(c api.Clause) api.Clause {
	return api.Clause{Pats: all(c.Pats, againPat), Rhs: all(c.Rhs, againRhs)}
}

func againPat(p api.Pat) api.Pat {
	p.Args = all(p.Args, againPat)
	return p
}

func againRhs(r api.Rhs) api.Rhs {
	return api.Rhs{Guard: all(r.Guard, againExpr), Body: againExpr(r.Body)}
}

func againExpr(e api.Expr) api.Expr {
	e.Params = slices.Clone(e.Params)
	e.Args = all(e.Args, againExpr)
	e.Alts = all(e.Alts, againAlt)
	e.Binds = all(e.Binds, againBind)
	return e
}

func againAlt(a api.Alt) api.Alt {
	return api.Alt{Pat: againPat(a.Pat), Rhs: all(a.Rhs, againRhs)}
}
