package gm

import (
	"slices"

	"changeling/api"
)

// What something is that was told.
const (
	integer = iota
	constructor
	function
)

// said is something that was told: n is the integer, or the constructor's place among the constructors; its fields are told next.
type said struct {
	is uint8
	n  int64
}

// force tells what is on top; of a constructor the fields are to be told next.
func (s *state) force() bool {
	n := s.node(s.below(0))
	switch n.Tag {
	case api.NInt:
		s.tell(said{integer, n.N})
	case api.NCon:
		s.tell(said{constructor, n.N})
		return s.fields(n)
	default:
		s.tell(said{is: function})
	}
	s.pop(1)
	return true
}

func (s *state) tell(x said) {
	s.told = append(s.told, x)
}

// again goes on with what is still to be told.
func (s *state) again(to int) bool {
	if len(s.stack) == 0 {
		return s.over(api.OutValue)
	}
	s.place = to
	return true
}

// term is what was told, as a whole. It is put together from behind: a constructor's fields are there before it, however many are in one another.
func (s *state) term() api.Term {
	var l []api.Term
	for _, x := range slices.Backward(s.told) {
		switch x.is {
		case integer:
			l = append(l, api.Term{N: x.n})
		case function:
			l = append(l, api.Term{Con: "->"})
		case constructor:
			l = s.program.joined(l, x.n)
		}
	}
	return l[0]
}

// joined is a row of terms with a constructor in the place of its fields, the first of which is the last one of the row.
func (p *Program) joined(l []api.Term, place int64) []api.Term {
	c := &p.cons[place]
	first := len(l) - len(c.Fields)
	t := api.Term{Con: c.Name}
	for _, field := range slices.Backward(l[first:]) {
		t.Args = append(t.Args, field)
	}
	return append(l[:first], t)
}
