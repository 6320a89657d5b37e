package values

import (
	"math/bits"

	"changeling/api"
)

// A data type may ask for itself with other Args in each of its fields, and these with others again: where all of them have no values, they are too many to be looked at one by one. What is here tells ahead that there are none.

// every has all sizes: bit n tells of the size n + 1.
const every = 1<<api.MaxSize - 1

// possible are the sizes of which data types may have values, whatever stands in the params' places.
func possible(cons []api.Con) map[string]uint64 {
	all := map[string]uint64{}
	for more := true; more; {
		more = false
		for _, c := range cons {
			sizes := all[c.Data] | rowSizes(c.Fields, all)<<len(c.Fields)
			more = more || sizes != all[c.Data]
			all[c.Data] = sizes
		}
	}
	return all
}

// rowSizes are the sizes of rows of fields, each less by how many fields there are.
func rowSizes(fields []api.Type, all map[string]uint64) uint64 {
	sizes := uint64(1)
	for _, ty := range fields {
		switch {
		case isInt(ty):
			sizes = sums(sizes, every)
		case ty.Kind == api.KFun:
			return 0
		default:
			sizes = sums(sizes, all[ty.Name])
		}
	}
	return sizes
}

// sums are all sums of one of a and one of b.
func sums(a, b uint64) uint64 {
	var all uint64
	for ; a > 0; a &= a - 1 {
		all |= b << bits.TrailingZeros64(a)
	}
	return all
}

// may tells whether a shape may have values of a size, as far as that is known of its sort and its name.
func (r *reckoning) may(place, size int) bool {
	switch s := r.shapes[place]; s.sort {
	case sortFun:
		return false
	case sortEnd:
		return size == 0
	case sortData:
		return size > 0 && r.sizes[s.name]>>(size-1)&1 > 0
	default:
		return size >= s.types
	}
}

// state is all on which it hangs whether a data type has values of a size: of each Arg, of which lesser sizes it has values, and of how many types it is made.
type state struct {
	name, args string
	size       int
}

// isNone tells whether it is known that a data type has no values of a size.
func (r *reckoning) isNone(s shape, size int) bool {
	return r.none[state{name: s.name, size: size}] > 0 && r.none[r.state(s, size)] > 0
}

// tellNone tells that a data type has no values of a size. That is told without Args, too: they are looked at only where it was told.
func (r *reckoning) tellNone(s shape, size int) {
	r.none[state{name: s.name, size: size}]++
	r.none[r.state(s, size)]++
}

func (r *reckoning) state(s shape, size int) state {
	var l []int
	for _, arg := range s.args {
		sizes := 0
		for n := range size {
			sizes |= min(r.count(arg, n), 1) << n
		}
		l = append(l, sizes, r.shapes[arg].parts)
	}
	return state{name: s.name, args: numbers(l), size: size}
}
