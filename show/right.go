package show

import (
	"changeling/api"
	"changeling/lex"
)

// highest is the highest level at which an operator binds.
const highest = 9

// Right tells whether a program may be.
func Right(p api.Program) bool {
	return all(p.Datas, rightData) && all(p.Fixes, rightFix) && rightBinds(p.Binds)
}

// RightExpr tells whether an expression may be.
func RightExpr(e api.Expr) bool {
	return rightFields(e) && all(e.Params, rightParam) && all(e.Args, RightExpr) && all(e.Alts, rightAlt) && rightBinds(e.Binds)
}

// RightPat tells whether a pattern may be.
func RightPat(p api.Pat) bool {
	switch p.Kind {
	case api.PAny:
		return p.Name == "" && p.N == 0 && len(p.Args) == 0
	case api.PVar:
		return isVariable(p.Name) && p.N == 0 && len(p.Args) == 0
	case api.PInt:
		return p.Name == "" && len(p.Args) == 0
	case api.PCon:
		return isConstructor(p.Name) && p.N == 0 && all(p.Args, RightPat)
	}
	return false
}

// RightType tells whether a type may be.
func RightType(t api.Type) bool {
	if t.N != 0 {
		return false
	}
	switch t.Kind {
	case api.KVar:
		return isVariable(t.Name) && len(t.Args) == 0
	case api.KCon:
		return isConstructor(t.Name) && all(t.Args, RightType)
	case api.KFun:
		return t.Name == "" && len(t.Args) == 2 && all(t.Args, RightType)
	}
	return false
}

// Infix tells whether an expression may be, and is infix.
func Infix(e api.Expr) bool {
	return RightExpr(e) && isInfix(e)
}

// isInfix tells whether an expression that may be is infix.
func isInfix(e api.Expr) bool {
	if e.Kind != api.EApp || e.Args[0].Kind != api.EApp {
		return false
	}
	op := e.Args[0].Args[0]
	return op.Kind == api.EVar && isOperator(op.Name)
}

// all tells whether all of a list may be.
func all[T any](l []T, may func(T) bool) bool {
	for _, x := range l {
		if !may(x) {
			return false
		}
	}
	return true
}

// lists tells which lists an expression has; of Args there are always so many.
type lists struct {
	params, alts, binds bool
	args                int
}

// rightFields tells whether an expression has the fields of its kind, and no others; what is in its lists is not looked at.
func rightFields(e api.Expr) bool {
	l := lists{len(e.Params) > 0, len(e.Alts) > 0, len(e.Binds) > 0, len(e.Args)}
	switch e.Kind {
	case api.EVar:
		return l == lists{} && e.N == 0 && (isVariable(e.Name) || isOperator(e.Name))
	case api.ECon:
		return l == lists{} && e.N == 0 && isConstructor(e.Name)
	case api.EInt:
		return l == lists{} && e.Name == ""
	}
	if e.Name != "" || e.N != 0 {
		return false
	}
	switch e.Kind {
	case api.EApp:
		return l == lists{args: 2}
	case api.ELam:
		return l == lists{args: 1, params: true}
	case api.ELet:
		return l == lists{args: 1, binds: true}
	case api.ECase:
		return l == lists{args: 1, alts: true}
	case api.EIf:
		return l == lists{args: 3}
	}
	return false
}

func rightParam(s string) bool {
	return s == "_" || isVariable(s)
}

func rightAlt(a api.Alt) bool {
	return RightPat(a.Pat) && rightBodies(a.Rhs)
}

// rightBodies tells whether bodies may be: one without a guard, or all with one.
func rightBodies(l []api.Rhs) bool {
	if len(l) == 1 && len(l[0].Guard) == 0 {
		return RightExpr(l[0].Body)
	}
	return len(l) > 0 && all(l, func(r api.Rhs) bool {
		return len(r.Guard) == 1 && RightExpr(r.Guard[0]) && RightExpr(r.Body)
	})
}

// rightBinds tells whether bindings may be: two of one name, one behind the other, would be read as one.
func rightBinds(l []api.Bind) bool {
	for i := 1; i < len(l); i++ {
		if l[i].Name == l[i-1].Name {
			return false
		}
	}
	return all(l, rightBind)
}

func rightBind(b api.Bind) bool {
	return (isVariable(b.Name) || isOperator(b.Name)) && len(b.Clauses) > 0 && all(b.Clauses, rightClause)
}

func rightClause(c api.Clause) bool {
	return all(c.Pats, RightPat) && rightBodies(c.Rhs)
}

func rightData(d api.Data) bool {
	return isConstructor(d.Name) && all(d.Params, isVariable) && len(d.Cons) > 0 && all(d.Cons, rightConstr)
}

func rightConstr(c api.Constr) bool {
	return isConstructor(c.Name) && all(c.Fields, RightType)
}

func rightFix(f api.Fix) bool {
	switch f.Assoc {
	case api.FixNone, api.FixLeft, api.FixRight:
		return isOperator(f.Op) && 0 <= f.Level && f.Level <= highest
	}
	return false
}

func isVariable(s string) bool    { return isKind(s, api.WName) }
func isConstructor(s string) bool { return isKind(s, api.WCon) }
func isOperator(s string) bool    { return isKind(s, api.WOp) }

// isKind tells whether a text is a token of a kind.
func isKind(s string, kind int) bool {
	t, ok := lex.One(s)
	return ok && t.Kind == kind
}
