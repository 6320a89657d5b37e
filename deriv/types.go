package deriv

import (
	"changeling/api"
	"changeling/unify"
)

// may tells whether types may stand in a derivation.
func may(types ...api.Type) bool {
	for _, t := range types {
		if n := unify.Size(t); n == 0 || n > api.MaxType {
			return false
		}
	}
	return true
}

// is tells whether a type is another one, but for what stands in the place of that one's variables: of these it asks.
func is(t, other api.Type, ask func(api.Type, int) bool) bool {
	if other.Kind == api.KVar {
		return ask(t, other.N)
	}
	if t.Kind != other.Kind || t.Name != other.Name || len(t.Args) != len(other.Args) {
		return false
	}
	for i, a := range t.Args {
		if !is(a, other.Args[i], ask) {
			return false
		}
	}
	return true
}

func isVariable(t api.Type, v int) bool {
	return t.Kind == api.KVar && t.N == v
}

// same tells whether types are the same.
func same(t, other api.Type) bool { return is(t, other, isVariable) }

// isWith tells whether a type is a constructor's, or a field's, with types in the place of the params.
func isWith(t, other api.Type, params []api.Type) bool {
	return is(t, other, func(t api.Type, v int) bool { return same(t, params[v]) })
}

// isInstance tells whether a type is a scheme's with types in the place of its variables.
func isInstance(t api.Type, s api.Scheme, with []api.Type) bool {
	place := map[int]int{}
	for i, v := range s.Vars {
		place[v] = i
	}
	return is(t, s.Type, func(t api.Type, v int) bool {
		if i, ok := place[v]; ok {
			return same(t, with[i])
		}
		return isVariable(t, v)
	})
}

// parted is a function's type's two parts.
func parted(t api.Type) (from, to api.Type, ok bool) {
	if t.Kind != api.KFun || len(t.Args) != 2 {
		return api.Type{}, api.Type{}, false
	}
	return t.Args[0], t.Args[1], true
}
