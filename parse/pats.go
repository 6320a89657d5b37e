package parse

import "changeling/api"

// pat reads a pattern.
func (p *parser) pat() api.Pat {
	if p.next().Kind != api.WCon {
		return p.apat()
	}
	c := p.apat()
	c.Args = p.apats()
	return c
}

// apats reads as many apats as there are.
func (p *parser) apats() []api.Pat {
	var l []api.Pat
	for beginsPat(p.next()) {
		l = append(l, p.apat())
	}
	return l
}

func (p *parser) apat() api.Pat {
	switch t := p.next(); {
	case t.Kind == api.WName:
		return api.Pat{Kind: api.PVar, Name: p.take().Text, At: t.At}
	case t.Kind == api.WCon:
		return api.Pat{Kind: api.PCon, Name: p.take().Text, At: t.At}
	case t.Kind == api.WInt:
		return api.Pat{Kind: api.PInt, N: p.number().N, At: t.At}
	case isMark(t, "_"):
		p.take()
		return api.Pat{Kind: api.PAny}
	}
	if !p.mark("(") {
		return api.Pat{}
	}
	if t := p.next(); t.Kind == api.WOp && t.Text == "-" {
		p.take()
		n := p.below()
		return api.Pat{Kind: api.PInt, N: n.N, At: n.At}
	}
	inner := p.pat()
	p.mark(")")
	return inner
}

func beginsPat(t api.Token) bool {
	switch t.Kind {
	case api.WName, api.WCon, api.WInt:
		return true
	}
	return isMark(t, "_", "(")
}
