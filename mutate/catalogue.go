package mutate

import (
	"slices"

	"changeling/api"
	"changeling/num"
)

// made tells what an operator makes by putting a part at a place.
func made[T any](w *walker, op int, at place[T], part T) {
	if w.tell != nil {
		w.tell(api.Mutant{Site: w.sites, Op: op, Program: at(part)})
	}
}

// swaps makes lists in which a part and the next one have changed places.
func swaps[T any](w *walker, op int, l []T, at place[[]T]) {
	for i := 1; i < len(l); i++ {
		made(w, op, at, with(with(l, i, l[i-1]), i-1, l[i]))
	}
}

// drops makes lists without one of their parts, if they have another one.
func drops[T any](w *walker, op int, l []T, at place[[]T]) {
	if len(l) < 2 {
		return
	}
	for i := range l {
		made(w, op, at, slices.Concat(l[:i], l[i+1:]))
	}
}

// pats makes other patterns of one.
func pats(w *walker, p api.Pat, at place[api.Pat]) {
	switch p.Kind {
	case api.PCon:
		made(w, api.MWild, at, api.Pat{Kind: api.PAny})
	case api.PInt:
		made(w, api.MWild, at, api.Pat{Kind: api.PAny})
		made(w, api.MPatNext, at, api.Pat{Kind: api.PInt, N: next(p.N)})
		made(w, api.MPatPrev, at, api.Pat{Kind: api.PInt, N: prev(p.N)})
	}
}

// leaves makes other expressions of one that has no parts; it makes none of others.
func leaves(w *walker, e api.Expr, at place[api.Expr]) {
	switch e.Kind {
	case api.ECon:
		c, _ := w.table.Con(e.Name)
		for _, other := range w.table.Cons(c.Data) {
			if other.Name != e.Name {
				made(w, api.MCon, at, constructor(other.Name))
			}
		}
	case api.EInt:
		made(w, api.MNext, at, integer(next(e.N)))
		made(w, api.MPrev, at, integer(prev(e.N)))
		made(w, api.MZero, at, integer(0))
	case api.EVar:
		op, by := num.Op(e.Name), api.MArith
		if num.Rel(op) {
			by = api.MRel
		}
		for _, other := range num.Others(op) {
			made(w, by, at, variable(num.Name(other)))
		}
	}
}

// opposite is what is true where an expression is false.
func opposite(e api.Expr) api.Expr {
	return api.Expr{Kind: api.EIf, Args: []api.Expr{e, constructor("False"), constructor("True")}}
}

func constructor(name string) api.Expr { return api.Expr{Kind: api.ECon, Name: name} }

func integer(n int64) api.Expr { return api.Expr{Kind: api.EInt, N: n} }

func variable(name string) api.Expr { return api.Expr{Kind: api.EVar, Name: name} }

func next(n int64) int64 { return done("+", n) }

func prev(n int64) int64 { return done("-", n) }

// done is an operator, done with a number and 1.
func done(op string, n int64) int64 {
	n, _ = num.Do(num.Op(op), n, 1)
	return n
}
