package values

import (
	"slices"
	"strings"

	"changeling/api"
	"changeling/decl"
	"changeling/num"
	"changeling/unify"
)

// The sorts of shapes.
const (
	sortInt  = iota // KVar and KCon Int
	sortFun         // KFun
	sortData        // another KCon
	sortRow         // a type and a row of others
	sortEnd         // the row of no types
)

// shape is a type or a row of types: what its values hang on.
type shape struct {
	sort  int
	name  string // a data type's
	args  []int  // the places of a type's Args; of a row's first type and of the others
	parts int    // of how many types a type is made, or one more than a field may be made of
	types int    // how many types a row has; a type is one
}

// key tells shapes apart.
type key struct {
	sort       int
	name, args string
}

// at is a shape and a size.
type at struct{ shape, size int }

// maker is a constructor, and the row of its fields' types.
type maker struct {
	con    string
	fields int
}

// reckoning is what was reckoned in one call.
type reckoning struct {
	cons   map[string][]api.Con // data types' constructors, but those that have no values at all
	sizes  map[string]uint64    // the sizes that their values may have
	none   map[state]int        // which of them have none of a size
	shapes []shape
	places map[key]int
	makers map[int][]maker
	counts map[at]int
	lists  map[at][][]api.Term
}

// reckon begins to reckon, and tells the row of some types.
func reckon(d *decl.Table, types []api.Type) (*reckoning, int) {
	cons := able(d)
	r := &reckoning{
		cons: map[string][]api.Con{}, sizes: possible(cons), none: map[state]int{},
		places: map[key]int{}, makers: map[int][]maker{}, counts: map[at]int{}, lists: map[at][][]api.Term{},
	}
	for _, c := range cons {
		r.cons[c.Data] = append(r.cons[c.Data], c)
	}
	// One type more than there may be parts has no rows; more of them turn nothing.
	types = types[:min(len(types), api.MaxSize+1)]
	return r, r.row(r.types(types, nil))
}

// able are the constructors that may have values: neither are there too many fields for any size, nor is one too large, or may not be.
func able(d *decl.Table) []api.Con {
	return slices.DeleteFunc(d.All(), func(c api.Con) bool {
		return len(c.Fields) >= api.MaxSize || slices.ContainsFunc(c.Fields, func(ty api.Type) bool {
			n := unify.Size(ty)
			return n == 0 || n > api.MaxType
		})
	})
}

// add is the place of a shape.
func (r *reckoning) add(s shape) int {
	k := key{s.sort, s.name, numbers(s.args)}
	place, ok := r.places[k]
	if !ok {
		place = len(r.shapes)
		r.places[k] = place
		r.shapes = append(r.shapes, s)
	}
	return place
}

// numbers is a text of numbers.
func numbers(l []int) string {
	var b strings.Builder
	for _, n := range l {
		b.WriteString(num.Text(int64(n)))
		b.WriteString(" ")
	}
	return b.String()
}

// typ is the place of a type, with some in the params' places; any other variable has the values of Int.
func (r *reckoning) typ(ty api.Type, params []int) int {
	if ty.Kind == api.KVar && ty.N < len(params) {
		return params[ty.N]
	}
	s := shape{sort: sortData, name: ty.Name, parts: 1, types: 1}
	switch {
	case ty.Kind == api.KFun:
		s.sort = sortFun
	case isInt(ty):
		s.sort, s.name = sortInt, ""
	}
	for _, a := range ty.Args {
		arg := r.typ(a, params)
		s.args = append(s.args, arg)
		s.parts = min(s.parts+r.shapes[arg].parts, api.MaxType+1)
	}
	return r.add(s)
}

// types are the places of types.
func (r *reckoning) types(l []api.Type, params []int) []int {
	return each(l, func(ty api.Type) int { return r.typ(ty, params) })
}

// isInt tells of a type that is known whether its values are integers.
func isInt(ty api.Type) bool {
	return ty.Kind == api.KVar || ty.Kind == api.KCon && ty.Name == "Int"
}

// row is the place of a row of types.
func (r *reckoning) row(types []int) int {
	place := r.add(shape{sort: sortEnd})
	for i, first := range slices.Backward(types) {
		place = r.add(shape{sort: sortRow, args: []int{first, place}, types: len(types) - i})
	}
	return place
}

// made are the constructors of a data type's values, by their Tags.
func (r *reckoning) made(place int) []maker {
	if l, ok := r.makers[place]; ok {
		return l
	}
	var l []maker
	s := r.shapes[place]
	for _, c := range r.cons[s.name] {
		fields := r.types(c.Fields, s.args)
		if !slices.ContainsFunc(fields, func(field int) bool { return r.shapes[field].parts > api.MaxType }) {
			l = append(l, maker{c.Name, r.row(fields)})
		}
	}
	r.makers[place] = l
	return l
}
