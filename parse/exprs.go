package parse

import (
	"changeling/api"
	"changeling/fix"
)

// later is an expression that was read; its rows are grouped when it is called.
type later = func() api.Expr

// expr reads a row of operands and operators.
func (p *parser) expr() later {
	operands := []later{p.operand()}
	var ops []api.Token
	for p.next().Kind == api.WOp {
		ops = append(ops, p.take())
		operands = append(operands, p.operand())
	}
	return func() api.Expr { return p.row(operands, ops) }
}

func (p *parser) operand() later {
	switch t := p.next(); {
	case isMark(t, "\\"):
		return p.lambda()
	case isWord(t, "let"):
		return p.let()
	case isWord(t, "if"):
		return p.choice()
	case isWord(t, "case"):
		return p.cases()
	}
	return p.apply()
}

// lambda reads a function without a name.
func (p *parser) lambda() later {
	at := p.take().At
	var params []string
params:
	for {
		switch t := p.next(); {
		case t.Kind == api.WName, isMark(t, "_"):
			params = append(params, p.take().Text)
		default:
			break params
		}
	}
	if len(params) == 0 {
		p.fail(api.ErrParse)
	}
	p.mark("->")
	body := p.expr()
	return func() api.Expr {
		return api.Expr{Kind: api.ELam, Params: params, Args: []api.Expr{body()}, At: at}
	}
}

func (p *parser) let() later {
	at := p.take().At
	var clauses []clause
	p.block(1, beginsClause, func() { clauses = append(clauses, p.clause()) })
	p.word("in")
	body := p.expr()
	return func() api.Expr {
		inner := binds(clauses)
		return api.Expr{Kind: api.ELet, Binds: inner, Args: []api.Expr{body()}, At: at}
	}
}

// choice reads an if.
func (p *parser) choice() later {
	at := p.take().At
	parts := []later{p.expr()}
	p.word("then")
	parts = append(parts, p.expr())
	p.word("else")
	parts = append(parts, p.expr())
	return func() api.Expr { return api.Expr{Kind: api.EIf, Args: grown(parts), At: at} }
}

func (p *parser) cases() later {
	at := p.take().At
	of := p.expr()
	p.word("of")
	var alts []func() api.Alt
	p.block(1, beginsPat, func() {
		pat := p.pat()
		rhs := p.bodies("->")
		alts = append(alts, func() api.Alt { return api.Alt{Pat: pat, Rhs: rhs()} })
	})
	return func() api.Expr {
		args := []api.Expr{of()}
		return api.Expr{Kind: api.ECase, Args: args, Alts: grown(alts), At: at}
	}
}

// apply reads a function and its arguments, or one aexp alone.
func (p *parser) apply() later {
	parts := []later{p.aexp()}
parts:
	for {
		switch t := p.next(); {
		case t.Kind == api.WName, t.Kind == api.WCon, t.Kind == api.WInt, isMark(t, "("):
			parts = append(parts, p.aexp())
		default:
			break parts
		}
	}
	return func() api.Expr {
		e := parts[0]()
		for _, arg := range parts[1:] {
			e = app(e, arg())
		}
		return e
	}
}

func (p *parser) aexp() later {
	switch t := p.next(); t.Kind {
	case api.WName:
		return leaf(api.Expr{Kind: api.EVar, Name: p.take().Text, At: t.At})
	case api.WCon:
		return leaf(api.Expr{Kind: api.ECon, Name: p.take().Text, At: t.At})
	case api.WInt:
		return leaf(api.Expr{Kind: api.EInt, N: p.number().N, At: t.At})
	}
	if !p.mark("(") {
		return nil
	}
	if p.next().Kind == api.WOp {
		return p.sign()
	}
	e := p.expr()
	p.mark(")")
	return e
}

// sign reads what stands behind a bracket, if it begins with an operator: its name alone, or a number's sign.
func (p *parser) sign() later {
	op := p.take()
	if op.Text == "-" && p.next().Kind == api.WInt {
		n := p.below()
		return leaf(api.Expr{Kind: api.EInt, N: n.N, At: n.At})
	}
	p.mark(")")
	return leaf(variable(op))
}

func leaf(e api.Expr) later {
	return func() api.Expr { return e }
}

// row groups a row: first the row itself and then its operands, so that of several clashes the outer one is told.
func (p *parser) row(operands []later, ops []api.Token) api.Expr {
	if p.fault.Err != api.OK {
		return api.Expr{}
	}
	ways := make([]api.Fix, len(ops))
	for i, op := range ops {
		ways[i] = fix.Find(p.fixes, op.Text)
	}
	spans, n, err := fix.Resolve(ways)
	if err != api.OK {
		p.fault = api.Fault{Err: err, At: ops[n].At}
		return api.Expr{}
	}
	roots := map[api.Span]int{}
	for i, s := range spans {
		roots[s] = i
	}
	parts := grown(operands)
	var grow func(s api.Span) api.Expr
	grow = func(s api.Span) api.Expr {
		i, ok := roots[s]
		if !ok {
			return parts[s.From]
		}
		left := grow(api.Span{From: s.From, To: i})
		right := grow(api.Span{From: i + 1, To: s.To})
		return app(app(variable(ops[i]), left), right)
	}
	return grow(api.Span{From: 0, To: len(ops)})
}

// variable is what a name or an operator is.
func variable(t api.Token) api.Expr {
	return api.Expr{Kind: api.EVar, Name: t.Text, At: t.At}
}

func app(f, arg api.Expr) api.Expr {
	return api.Expr{Kind: api.EApp, Args: []api.Expr{f, arg}, At: f.At}
}
