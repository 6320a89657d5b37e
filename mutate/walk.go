package mutate

import (
	"slices"

	"changeling/api"
	"changeling/decl"
)

// place is where a part stands in its program: it is the program with another part there, which shares with the old one what is the same.
type place[T any] func(T) api.Program

// within is the place of a part of something that has a place; put puts it there.
func within[T, U any](whole T, at place[T], put func(*T, U)) place[U] {
	return func(part U) api.Program {
		changed := whole
		put(&changed, part)
		return at(changed)
	}
}

// with is a list with another part at a place.
func with[T any](l []T, i int, part T) []T {
	l = slices.Clone(l)
	l[i] = part
	return l
}

// each comes to each part of a list that has a place.
func each[T any](l []T, at place[[]T], come func(T, place[T])) {
	for i, part := range l {
		come(part, func(other T) api.Program { return at(with(l, i, other)) })
	}
}

// walker goes through a program's sites, in order.
type walker struct {
	table *decl.Table
	bind  int              // in which of the program's bindings it is
	sites int              // how many it has left behind
	tell  func(api.Mutant) // is told what is made; while it is nil, sites are only counted
}

// come comes to a site, and has made there what the catalogue makes.
func (w *walker) come(rewrite func()) {
	if w.tell != nil {
		rewrite()
	}
	w.sites++
}

// program goes through a program that has types.
func (w *walker) program(p api.Program) {
	w.table, _ = decl.New(p.Datas)
	at := func(l []api.Bind) api.Program {
		return api.Program{Datas: p.Datas, Fixes: p.Fixes, Binds: l}
	}
	each(p.Binds, at, func(b api.Bind, at place[api.Bind]) {
		w.binding(b, at)
		w.bind++
	})
}

func (w *walker) binding(b api.Bind, at place[api.Bind]) {
	clauses := within(b, at, func(b *api.Bind, l []api.Clause) { b.Clauses = l })
	w.come(func() {
		swaps(w, api.MSwapClause, b.Clauses, clauses)
		drops(w, api.MDropClause, b.Clauses, clauses)
	})
	each(b.Clauses, clauses, w.clause)
}

func (w *walker) clause(c api.Clause, at place[api.Clause]) {
	each(c.Pats, within(c, at, func(c *api.Clause, l []api.Pat) { c.Pats = l }), w.pat)
	each(c.Rhs, within(c, at, func(c *api.Clause, l []api.Rhs) { c.Rhs = l }), w.body)
}

func (w *walker) pat(p api.Pat, at place[api.Pat]) {
	w.come(func() { pats(w, p, at) })
	each(p.Args, within(p, at, func(p *api.Pat, l []api.Pat) { p.Args = l }), w.pat)
}

func (w *walker) body(r api.Rhs, at place[api.Rhs]) {
	each(r.Guard, within(r, at, func(r *api.Rhs, l []api.Expr) { r.Guard = l }), w.guard)
	w.expr(r.Body, within(r, at, func(r *api.Rhs, e api.Expr) { r.Body = e }))
}

// guard goes through a guard: that is a site, and its expression is one.
func (w *walker) guard(e api.Expr, at place[api.Expr]) {
	w.come(func() { made(w, api.MGuard, at, opposite(e)) })
	w.expr(e, at)
}

func (w *walker) expr(e api.Expr, at place[api.Expr]) {
	args := within(e, at, func(e *api.Expr, l []api.Expr) { e.Args = l })
	alts := within(e, at, func(e *api.Expr, l []api.Alt) { e.Alts = l })
	w.come(func() {
		switch e.Kind {
		case api.EIf:
			made(w, api.MGuard, args, with(e.Args, 0, opposite(e.Args[0])))
		case api.ECase:
			swaps(w, api.MSwapAlt, e.Alts, alts)
			drops(w, api.MDropAlt, e.Alts, alts)
		default:
			leaves(w, e, at)
		}
	})
	each(e.Binds, within(e, at, func(e *api.Expr, l []api.Bind) { e.Binds = l }), w.binding)
	each(e.Args, args, w.expr)
	each(e.Alts, alts, w.alt)
}

func (w *walker) alt(a api.Alt, at place[api.Alt]) {
	w.pat(a.Pat, within(a, at, func(a *api.Alt, p api.Pat) { a.Pat = p }))
	each(a.Rhs, within(a, at, func(a *api.Alt, l []api.Rhs) { a.Rhs = l }), w.body)
}
