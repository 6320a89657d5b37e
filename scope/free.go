package scope

import (
	"changeling/api"
	"changeling/lex"
	"changeling/show"
)

// names tells of names how often each is there.
type names map[string]int

// with does something while names more are there.
func (n names) with(more []string, do func()) {
	for _, name := range more {
		n[name]++
	}
	do()
	for _, name := range more {
		n[name]--
	}
}

// finder finds names that are not bound.
type finder struct {
	bound names
	found names
	free  []string
}

// Free are an expression's free names.
func Free(e api.Expr) []string {
	if !show.RightExpr(e) {
		return nil
	}
	return find(func(f *finder) { f.expr(e) })
}

// Uses are the names that a binding's clauses have free.
func Uses(b api.Bind) []string {
	if !show.Right(api.Program{Binds: []api.Bind{b}}) {
		return nil
	}
	return find(func(f *finder) { f.clauses(b) })
}

// Vars are a pattern's variables.
func Vars(p api.Pat) []string {
	if !show.RightPat(p) {
		return nil
	}
	return vars([]api.Pat{p})
}

// find is what a look finds.
func find(look func(*finder)) []string {
	f := &finder{bound: names{}, found: names{}}
	look(f)
	return f.free
}

// vars are some patterns' variables.
func vars(l []api.Pat) []string {
	var all []string
	var look func(api.Pat)
	look = func(p api.Pat) {
		if p.Kind == api.PVar {
			all = append(all, p.Name)
		}
		each(p.Args, look)
	}
	each(l, look)
	return all
}

// namesOf are some bindings' names.
func namesOf(l []api.Bind) []string {
	var all []string
	for _, b := range l {
		all = append(all, b.Name)
	}
	return all
}

// each does something with each of a list.
func each[T any](l []T, do func(T)) {
	for _, x := range l {
		do(x)
	}
}

func (f *finder) name(s string) {
	if f.bound[s] > 0 || f.found[s] > 0 {
		return
	}
	f.found[s]++
	f.free = append(f.free, s)
}

// expr looks at an expression's parts in the order in which they are written.
func (f *finder) expr(e api.Expr) {
	switch e.Kind {
	case api.EVar:
		f.name(e.Name)
	case api.EApp:
		f.app(e)
	case api.ELam:
		f.bound.with(e.Params, func() { each(e.Args, f.expr) })
	case api.ELet:
		f.bound.with(namesOf(e.Binds), func() {
			each(e.Binds, f.clauses)
			each(e.Args, f.expr)
		})
	case api.ECase:
		each(e.Args, f.expr)
		each(e.Alts, func(a api.Alt) { f.bodies([]api.Pat{a.Pat}, a.Rhs) })
	default:
		each(e.Args, f.expr)
	}
}

// app looks at an application: an operator is written behind its first operand.
func (f *finder) app(e api.Expr) {
	first := e.Args[0]
	if isInfix(e) {
		f.expr(first.Args[1])
		f.expr(first.Args[0])
	} else {
		f.expr(first)
	}
	f.expr(e.Args[1])
}

// isInfix tells whether an application that may be is infix. (show.Infix would look at all that is in it again.)
func isInfix(e api.Expr) bool {
	first := e.Args[0]
	if first.Kind != api.EApp || first.Args[0].Kind != api.EVar {
		return false
	}
	t, ok := lex.One(first.Args[0].Name)
	return ok && t.Kind == api.WOp
}

func (f *finder) clauses(b api.Bind) {
	each(b.Clauses, func(c api.Clause) { f.bodies(c.Pats, c.Rhs) })
}

// bodies looks at what stands behind patterns.
func (f *finder) bodies(l []api.Pat, rhs []api.Rhs) {
	f.bound.with(vars(l), func() {
		each(rhs, func(r api.Rhs) {
			each(r.Guard, f.expr)
			f.expr(r.Body)
		})
	})
}
