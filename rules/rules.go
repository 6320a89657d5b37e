// Package rules has what the rules of derivations (see shared/doc/12-infer.md) say of types, schemes and groups: for the layer that finds derivations, and for the one that checks them.
package rules

import (
	"slices"

	"changeling/api"
	"changeling/num"
	"changeling/unify"
)

// Data is a data type of some types.
func Data(name string, args ...api.Type) api.Type {
	return api.Type{Kind: api.KCon, Name: name, Args: slices.Clone(args)}
}

// Int is the type of integers.
func Int() api.Type { return Data("Int") }

// Bool is the type of guards.
func Bool() api.Type { return Data("Bool") }

// From is the type from some types, one after the other, to one.
func From(types []api.Type, to api.Type) api.Type {
	for _, t := range slices.Backward(types) {
		to = api.Type{Kind: api.KFun, Args: []api.Type{t, to}}
	}
	return to
}

// Operator is the type of an operator that num has, and whether it has one of that name.
func Operator(name string) (api.Type, bool) {
	op := num.Op(name)
	if op == 0 {
		return api.Type{}, false
	}
	to := Int()
	if num.Rel(op) {
		to = Bool()
	}
	return From([]api.Type{Int(), Int()}, to), true
}

// With is a constructor's type, or a field's, with types in the place of the params.
func With(t api.Type, params []api.Type) api.Type {
	vars := unify.Vars(t)
	var with []api.Type
	for _, v := range vars {
		with = append(with, params[v])
	}
	return unify.Subst(t, vars, with)
}

// Names are bindings' names.
func Names(l []api.Bind) []string {
	var all []string
	for _, b := range l {
		all = append(all, b.Name)
	}
	return all
}

// Schemes are the schemes of a group's members, if their types may be.
func Schemes(g api.DGroup) []api.Scheme {
	vars := map[int]int{}
	for _, v := range g.Vars {
		vars[v]++
	}
	var all []api.Scheme
	for _, t := range g.Types {
		s := api.Scheme{Type: unify.Subst(t, nil, nil)}
		for _, v := range unify.Vars(t) {
			if vars[v] > 0 {
				s.Vars = append(s.Vars, v)
			}
		}
		all = append(all, s)
	}
	return all
}

// InOrder are the schemes of so many bindings, by their groups. (Of bindings that are in no group, since they are too many, it is the zero one.)
func InOrder(bindings int, groups []api.DGroup) []api.Scheme {
	l := make([]api.Scheme, bindings)
	for _, g := range groups {
		for i, s := range Schemes(g) {
			l[g.Members[i]] = s
		}
	}
	return l
}
