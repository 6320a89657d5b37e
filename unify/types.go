// Package unify is layer 10: see shared/doc/10-unify.md.
package unify

import (
	"slices"

	"changeling/api"
)

// maxVar is the greatest number that a variable may have.
const maxVar = 1 << 30

// Right tells whether a type may be.
func Right(t api.Type) bool {
	switch t.Kind {
	case api.KVar:
		return t.N >= 0 && t.N <= maxVar && t.Name == "" && len(t.Args) == 0
	case api.KCon:
		return t.Name != "" && t.N == 0 && allRight(t.Args)
	case api.KFun:
		return t.Name == "" && t.N == 0 && len(t.Args) == 2 && allRight(t.Args)
	}
	return false
}

func allRight(l []api.Type) bool {
	for _, t := range l {
		if !Right(t) {
			return false
		}
	}
	return true
}

// Size is of how many types a type is made.
func Size(t api.Type) int {
	if !Right(t) {
		return 0
	}
	return size(t)
}

func size(t api.Type) int {
	n := 1
	for _, a := range t.Args {
		n += size(a)
	}
	return n
}

// Vars are a type's variables.
func Vars(t api.Type) []int {
	if !Right(t) {
		return nil
	}
	var l []int
	seen := map[int]int{}
	eachVar(t, func(n int) {
		seen[n]++
		if seen[n] == 1 {
			l = append(l, n)
		}
	})
	return l
}

// eachVar does something with each variable of a type, from the left.
func eachVar(t api.Type, do func(int)) {
	if t.Kind == api.KVar {
		do(t.N)
	}
	for _, a := range t.Args {
		eachVar(a, do)
	}
}

// Rename is a type whose variables are numbered as they stand.
func Rename(t api.Type) api.Type {
	vars := Vars(t)
	with := make([]api.Type, len(vars))
	for i := range with {
		with[i] = variable(i)
	}
	return Subst(t, vars, with)
}

// Subst is a type with types in the place of variables.
func Subst(t api.Type, vars []int, with []api.Type) api.Type {
	if !Right(t) {
		return api.Type{}
	}
	place := map[int]int{}
	for i := range min(len(vars), len(with)) {
		if _, ok := place[vars[i]]; !ok {
			place[vars[i]] = i
		}
	}
	return replaced(t, place, with)
}

// replaced is a type with the types at their places in the place of variables.
func replaced(t api.Type, place map[int]int, with []api.Type) api.Type {
	if t.Kind == api.KVar {
		if i, ok := place[t.N]; ok {
			return copied(with[i])
		}
	}
	t.Args = slices.Clone(t.Args)
	for i, a := range t.Args {
		t.Args[i] = replaced(a, place, with)
	}
	return t
}

// copied is a type in new memory, whether it may be or not.
func copied(t api.Type) api.Type {
	t.Args = slices.Clone(t.Args)
	for i, a := range t.Args {
		t.Args[i] = copied(a)
	}
	return t
}

func variable(n int) api.Type { return api.Type{Kind: api.KVar, N: n} }
