package parse

import "changeling/api"

// typ reads a type; an arrow takes all that stands behind it.
func (p *parser) typ() api.Type {
	t := p.btype()
	if !isMark(p.next(), "->") {
		return t
	}
	p.take()
	return api.Type{Kind: api.KFun, Args: []api.Type{t, p.typ()}}
}

func (p *parser) btype() api.Type {
	if p.next().Kind != api.WCon {
		return p.atype()
	}
	t := p.atype()
	t.Args = p.atypes()
	return t
}

// atypes reads as many atypes as there are.
func (p *parser) atypes() []api.Type {
	var l []api.Type
types:
	for {
		switch t := p.next(); {
		case t.Kind == api.WCon, t.Kind == api.WName, isMark(t, "("):
			l = append(l, p.atype())
		default:
			break types
		}
	}
	return l
}

func (p *parser) atype() api.Type {
	switch t := p.next(); {
	case t.Kind == api.WCon:
		return api.Type{Kind: api.KCon, Name: p.take().Text}
	case t.Kind == api.WName:
		return api.Type{Kind: api.KVar, Name: p.take().Text}
	}
	if !p.mark("(") {
		return api.Type{}
	}
	t := p.typ()
	p.mark(")")
	return t
}
