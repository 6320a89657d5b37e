package values

import (
	"slices"

	"changeling/api"
)

// most is how many values are told apart from more.
const most = api.MaxValues + 1

// count is how many values of a size a shape has, at most so many.
func (r *reckoning) count(place, size int) int {
	s := r.shapes[place]
	switch {
	case !r.may(place, size):
		return 0
	case s.sort == sortEnd, s.sort == sortInt && size == 1:
		return 1
	case s.sort == sortInt:
		return 2
	}
	n, ok := r.counts[at{place, size}]
	if !ok {
		n = r.sum(place, size)
		r.counts[at{place, size}] = n
	}
	return n
}

// sum is how many values a data type or a row has, added up as far as they are told.
func (r *reckoning) sum(place, size int) int {
	s := r.shapes[place]
	if s.sort == sortRow {
		return r.sumRow(s, size)
	}
	if r.isNone(s, size) {
		return 0
	}
	n := 0
	for _, m := range r.made(place) {
		if n < most {
			n = min(n+r.count(m.fields, size-1), most)
		}
	}
	if n == 0 {
		r.tellNone(s, size)
	}
	return n
}

func (r *reckoning) sumRow(s shape, size int) int {
	first, others := s.args[0], s.args[1]
	n := 0
	for size1 := range size + 1 {
		if n < most && r.may(first, size1) {
			// The others come first, since of no type there is nothing but of the size 0.
			if many := r.count(others, size-size1); many > 0 {
				n = min(n+r.count(first, size1)*many, most)
			}
		}
	}
	return n
}

// list are the values of a size that a shape has, in order: rows of one, if it is a type. They share what they have in common.
func (r *reckoning) list(place, size int) [][]api.Term {
	if r.count(place, size) == 0 {
		return nil
	}
	l, ok := r.lists[at{place, size}]
	if !ok {
		l = r.listed(place, size)
		r.lists[at{place, size}] = l
	}
	return l
}

// listed are the values of a shape of which there are some.
func (r *reckoning) listed(place, size int) [][]api.Term {
	s := r.shapes[place]
	switch s.sort {
	case sortInt:
		return integers(int64(size - 1))
	case sortRow:
		return r.listedRow(s, size)
	case sortEnd:
		return [][]api.Term{nil}
	}
	var l [][]api.Term
	for _, m := range r.made(place) {
		for _, fields := range r.list(m.fields, size-1) {
			l = append(l, []api.Term{{Con: m.con, Args: fields}})
		}
	}
	return l
}

// integers are a number and its negative.
func integers(n int64) [][]api.Term {
	if n == 0 {
		return [][]api.Term{{{}}}
	}
	return [][]api.Term{{{N: n}}, {{N: -n}}}
}

func (r *reckoning) listedRow(s shape, size int) [][]api.Term {
	first, others := s.args[0], s.args[1]
	var l [][]api.Term
	for size1 := range size + 1 {
		// Of the ones there may be more than are told, where there are none of the others.
		if r.count(others, size-size1) == 0 || r.count(first, size1) == 0 {
			continue
		}
		for _, x := range r.list(first, size1) {
			for _, row := range r.list(others, size-size1) {
				l = append(l, slices.Concat(x, row))
			}
		}
	}
	return l
}
