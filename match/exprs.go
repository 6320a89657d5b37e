package match

import (
	"slices"

	"changeling/api"
	"changeling/num"
)

// maker makes core expressions of what is in a binding. A local name's number is how many are in scope around it, so that it does not hang on what stands beside it; what is made with some in scope may also be put further in, since it asks for none of those that are bound there.
//
// Expressions are handed on by pointers: they are large, and many may stand in one another.
type maker struct {
	cons  map[string]con
	local map[string]*api.Core // what a name in scope stands for, if it is none of a definition
	depth int                  // how many local names are in scope
}

// under does something with so many local names more in scope.
func (m *maker) under(n int, within func(names []string)) {
	var names []string
	for i := range n {
		names = append(names, "#"+num.Text(int64(m.depth+i)))
	}
	m.depth += n
	within(names)
	m.depth -= n
}

// with does something while names stand for core expressions.
func (m *maker) with(names []string, as []*api.Core, do func()) {
	old := make([]*api.Core, len(names))
	for i, name := range names {
		old[i] = m.local[name]
		m.local[name] = as[i]
	}
	do()
	for i, name := range slices.Backward(names) {
		m.local[name] = old[i]
	}
}

func variable(name string) *api.Core { return &api.Core{Kind: api.CVar, Name: name} }

func fail() *api.Core { return &api.Core{Kind: api.CFail} }

// node is a core expression of a kind that has just these Args.
func node(kind int, args ...*api.Core) *api.Core {
	return &api.Core{Kind: kind, Args: each(args, func(c *api.Core) api.Core { return *c })}
}

// leaf tells whether an expression has no parts: it may as well stand wherever a name of it would.
func leaf(c *api.Core) bool {
	switch c.Kind {
	case api.CVar, api.CGlob, api.CInt, api.CCon, api.CFail:
		return true
	}
	return false
}

// bind is what a binding's name is bound to.
func (m *maker) bind(b *api.Bind) *api.Core {
	params := len(b.Clauses[0].Pats)
	if params == 0 {
		return m.clauses(b.Clauses, nil)
	}
	return m.lambda(params, func(names []string) *api.Core { return m.clauses(b.Clauses, names) })
}

// clauses is what clauses come to with the arguments that have some names.
func (m *maker) clauses(l []api.Clause, names []string) *api.Core {
	args := each(names, func(name string) *subject { return &subject{is: variable(name)} })
	rows := each(l, func(c api.Clause) row { return row{next: ahead(args, c.Pats, nil), rhs: c.Rhs} })
	return m.match(rows).make(fail())
}

// lambda is a function of so many arguments.
func (m *maker) lambda(params int, body func(names []string) *api.Core) (c *api.Core) {
	m.under(params, func(names []string) {
		c = node(api.CLam, body(names))
		c.Params = names
	})
	return c
}

// shared is what is made with a name of an expression.
func (m *maker) shared(is *api.Core, within func(name *api.Core) *api.Core) (c *api.Core) {
	m.under(1, func(names []string) {
		c = node(api.CLet, within(variable(names[0])))
		c.Binds = []api.CBind{{Name: names[0], Body: *is}}
	})
	return c
}

func (m *maker) expr(e *api.Expr) *api.Core {
	switch e.Kind {
	case api.EVar:
		return m.name(e.Name)
	case api.ECon:
		c := m.cons[e.Name]
		return &api.Core{Kind: api.CCon, Name: e.Name, N: int64(c.tag), Arity: c.fields}
	case api.EApp:
		return m.app(e)
	case api.ELam:
		return m.lam(e)
	case api.ELet:
		return m.let(e)
	case api.ECase:
		return m.choice(e)
	case api.EIf:
		return m.fork(&e.Args[0], m.expr(&e.Args[1]), m.expr(&e.Args[2]))
	}
	return &api.Core{Kind: api.CInt, N: e.N}
}

func (m *maker) name(name string) *api.Core {
	if c := m.local[name]; c != nil {
		return c
	}
	return &api.Core{Kind: api.CGlob, Name: name}
}

func (m *maker) app(e *api.Expr) *api.Core {
	op, first := 0, &e.Args[0]
	if first.Kind == api.EApp && first.Args[0].Kind == api.EVar {
		op = num.Op(first.Args[0].Name)
	}
	if op == 0 {
		return node(api.CApp, m.expr(first), m.expr(&e.Args[1]))
	}
	c := node(api.CPrim, m.expr(&first.Args[1]), m.expr(&e.Args[1]))
	c.N = int64(op)
	return c
}

func (m *maker) lam(e *api.Expr) *api.Core {
	return m.lambda(len(e.Params), func(names []string) (body *api.Core) {
		m.with(e.Params, each(names, variable), func() { body = m.expr(&e.Args[0]) })
		return body
	})
}

func (m *maker) let(e *api.Expr) (c *api.Core) {
	bound := each(e.Binds, func(b api.Bind) string { return b.Name })
	m.under(len(bound), func(names []string) {
		m.with(bound, each(names, variable), func() {
			c = node(api.CLet, m.expr(&e.Args[0]))
			for i := range e.Binds {
				c.Binds = append(c.Binds, api.CBind{Name: names[i], Body: *m.bind(&e.Binds[i])})
			}
		})
	})
	return c
}

// fork is one of two expressions, by what a condition is.
func (m *maker) fork(condition *api.Expr, yes, no *api.Core) *api.Core {
	c := node(api.CCase, m.expr(condition))
	c.Alts = []api.CAlt{
		{Kind: api.ACon, Name: "False", N: int64(m.cons["False"].tag), Body: *no},
		{Kind: api.ACon, Name: "True", N: int64(m.cons["True"].tag), Body: *yes},
	}
	return c
}

// choice has a name of what is looked at only where that is needed in several places.
func (m *maker) choice(e *api.Expr) *api.Core {
	s := &subject{}
	on := []*subject{s}
	alts := m.match(each(e.Alts, func(a api.Alt) row { return row{next: ahead(on, []api.Pat{a.Pat}, nil), rhs: a.Rhs} }))
	within := func(is *api.Core) *api.Core {
		s.is = is
		return alts.make(fail())
	}
	is := m.expr(&e.Args[0])
	if leaf(is) || s.asked <= 1 && !s.named {
		return within(is)
	}
	return m.shared(is, within)
}
