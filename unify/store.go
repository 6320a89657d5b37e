package unify

import (
	"iter"
	"slices"

	"changeling/api"
)

// fact is what is known of a variable: the type that it is, whose Args are variables; or a variable that it is the same as; or, with a type of Kind 0, what the variables have in common that are the same as it.
type fact struct {
	typ   api.Type
	least int  // the least one of them
	depth int  // how many steps lead to it at most
	held  bool // does one of them stand in a type that is known
}

// Store is what is known of variables. Those of its own, with numbers below 0, are the types that stand within others.
type Store struct {
	known map[int]fact
	next  int // the variable that is fresh
}

// side is a type as it is taken: a type that stands as it was given, or a variable and what is known of it.
type side struct {
	fact
	isVar bool
	n     int
}

// isOpen tells whether nothing is known of a variable but which ones are the same.
func (x side) isOpen() bool { return x.typ.Kind == 0 }

func (x side) asType() api.Type {
	if x.isVar {
		return variable(x.n)
	}
	return x.typ
}

// New is a store that knows nothing.
func New() *Store { return &Store{known: map[int]fact{}} }

// Fresh is a variable that is new.
func (s *Store) Fresh() api.Type {
	if s == nil {
		return variable(0)
	}
	s.next++
	return variable(s.next - 1)
}

// given notes the variables that the store is given. (One that New did not make knows nothing yet.)
func (s *Store) given(t api.Type) {
	if s.known == nil {
		s.known = map[int]fact{}
	}
	eachVar(t, func(n int) { s.next = max(s.next, n+1) })
}

// end is the variable that one leads to, and what is known of it.
func (s *Store) end(n int) (int, fact) {
	for {
		f, ok := s.known[n]
		if !ok {
			return n, fact{least: n}
		}
		if f.typ.Kind != api.KVar {
			return n, f
		}
		n = f.typ.N
	}
}

func (s *Store) taken(t api.Type) side {
	if t.Kind != api.KVar {
		return side{fact: fact{typ: t}}
	}
	n, f := s.end(t.N)
	return side{fact: f, isVar: true, n: n}
}

// open are the variables of a type of which nothing is known, each once, as they first stand in it: as it is known, if deep, and as it stands else.
func (s *Store) open(t api.Type, deep bool) iter.Seq2[int, fact] {
	return func(yield func(int, fact) bool) {
		seen := map[int]int{}
		todo := []api.Type{t}
		for len(todo) > 0 {
			x := s.taken(todo[len(todo)-1])
			todo = todo[:len(todo)-1]
			if x.isVar {
				seen[x.n]++
				if seen[x.n] > 1 || !deep && !x.isOpen() {
					continue
				}
				if x.isOpen() && !yield(x.n, x.fact) {
					return
				}
			}
			for _, a := range slices.Backward(x.typ.Args) {
				todo = append(todo, a)
			}
		}
	}
}

// Leaves are the variables of a type, as it is known.
func (s *Store) Leaves(t api.Type) ([]int, api.Errno) {
	if err := s.asked(t); err != api.OK {
		return nil, err
	}
	var l []int
	for _, f := range s.open(t, true) {
		l = append(l, f.least)
	}
	return l, api.OK
}

// Resolve is a type with each variable as it is known.
func (s *Store) Resolve(t api.Type) (api.Type, api.Errno) {
	if err := s.asked(t); err != api.OK {
		return api.Type{}, err
	}
	room := api.MaxType
	all, ok := s.whole(t, &room)
	if !ok {
		return api.Type{}, api.ErrLarge
	}
	return all, api.OK
}

// asked notes what a store is asked of, or tells why it may not be.
func (s *Store) asked(t api.Type) api.Errno {
	if s == nil {
		return api.ErrNil
	}
	if !Right(t) {
		return api.ErrArg
	}
	s.given(t)
	return api.OK
}

// whole is a type as it is known, if there is room for it; what room it takes is gone then.
func (s *Store) whole(t api.Type, room *int) (api.Type, bool) {
	if *room == 0 {
		return api.Type{}, false
	}
	*room--
	x := s.taken(t)
	if x.isOpen() {
		return variable(x.least), true
	}
	all := api.Type{Kind: x.typ.Kind, Name: x.typ.Name}
	for _, a := range x.typ.Args {
		b, ok := s.whole(a, room)
		if !ok {
			return api.Type{}, false
		}
		all.Args = append(all.Args, b)
	}
	return all, true
}
