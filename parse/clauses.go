package parse

import "changeling/api"

// clause is a clause that was read: its name's token, its patterns, and what its bodies come to.
type clause struct {
	name api.Token
	pats []api.Pat
	rhs  func() []api.Rhs
}

// clause reads a clause.
func (p *parser) clause() clause {
	name := p.fname()
	pats := p.apats()
	return clause{name, pats, p.bodies("=")}
}

func beginsClause(t api.Token) bool {
	return t.Kind == api.WName || isMark(t, "(")
}

func (p *parser) fname() api.Token {
	if p.next().Kind == api.WName {
		return p.take()
	}
	p.mark("(")
	op := p.kind(api.WOp)
	p.mark(")")
	return op
}

// bodies reads a body, or one behind each guard, with a sign ahead.
func (p *parser) bodies(sign string) func() []api.Rhs {
	if !isMark(p.next(), "|") {
		p.mark(sign)
		body := p.expr()
		return func() []api.Rhs { return []api.Rhs{{Body: body()}} }
	}
	var parts []func() api.Rhs
	for isMark(p.next(), "|") {
		p.take()
		guard := p.expr()
		p.mark(sign)
		body := p.expr()
		parts = append(parts, func() api.Rhs {
			// The guard stands first, so that its fault is told first.
			held := []api.Expr{guard()}
			return api.Rhs{Guard: held, Body: body()}
		})
	}
	return func() []api.Rhs { return grown(parts) }
}

// binds makes bindings of clauses: one of those of one name that no other name's parts.
func binds(l []clause) []api.Bind {
	var all []api.Bind
	for _, c := range l {
		n := len(all)
		if n == 0 || all[n-1].Name != c.name.Text {
			all = append(all, api.Bind{Name: c.name.Text, At: c.name.At})
			n++
		}
		all[n-1].Clauses = append(all[n-1].Clauses, api.Clause{Pats: c.pats, Rhs: c.rhs()})
	}
	return all
}

// grown is what each part of a list comes to, the first one first.
func grown[T any](parts []func() T) []T {
	var l []T
	for _, part := range parts {
		l = append(l, part())
	}
	return l
}
