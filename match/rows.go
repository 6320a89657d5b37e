package match

import (
	"cmp"
	"slices"

	"changeling/api"
)

// subject is what patterns are held against.
type subject struct {
	is    *api.Core // known when the names around it are
	asked int       // in how many places it is asked what it is
	named bool      // a pattern's variable is it
}

// test is a pattern that is to match, with those that are to match behind it.
type test struct {
	of   *subject
	pat  api.Pat
	next *test
}

// row is a clause or an alternative, as far as its patterns are not yet known to match.
type row struct {
	next  *test
	names []string   // the variables of the patterns that match
	are   []*subject // what each of them is
	rhs   []api.Rhs
}

// ahead is a row's tests with some more ahead.
func ahead(against []*subject, pats []api.Pat, next *test) *test {
	for i, p := range slices.Backward(pats) {
		next = &test{of: against[i], pat: p, next: next}
	}
	return next
}

// settled is a row whose first pattern, if there is one, asks something.
func settled(r row) row {
	for r.next != nil && (r.next.pat.Kind == api.PAny || r.next.pat.Kind == api.PVar) {
		if r.next.pat.Kind == api.PVar {
			r.names = append(r.names, r.next.pat.Name)
			r.are = append(r.are, r.next.of)
			r.next.of.named = true
		}
		r.next = r.next.next
	}
	return r
}

// What a row asks next.
const (
	nothing = iota
	whichInt
	whichCon
)

// class is what a row asks next, and of what.
type class struct {
	asks int
	of   *subject
}

func classOf(r row) class {
	switch {
	case r.next == nil:
		return class{asks: nothing}
	case r.next.pat.Kind == api.PInt:
		return class{whichInt, r.next.of}
	}
	return class{whichCon, r.next.of}
}

// key is which integer, or by its Tag which constructor, a row needs next.
func (m *maker) key(r row) int64 {
	if r.next.pat.Kind == api.PInt {
		return r.next.pat.N
	}
	return int64(m.cons[r.next.pat.Name].tag)
}

// parts are the parts of a list, in order, in each of which all are of one class.
func parts[T any, C comparable](l []T, class func(T) C) [][]T {
	var all [][]T
	from := 0
	for to := range l {
		if to+1 == len(l) || class(l[to+1]) != class(l[to]) {
			all = append(all, l[from:to+1])
			from = to + 1
		}
	}
	return all
}

// plan is how a match is made when what stands behind it is known: that is put in each place where it fails.
type plan struct {
	fails int
	make  func(rest *api.Core) *api.Core
}

// match is the plan of rows that are tried in order.
func (m *maker) match(rows []row) plan {
	return inTurn(m, parts(each(rows, settled), classOf), func(l []row) plan {
		if classOf(l[0]).asks == nothing {
			return inTurn(m, l, m.bodies)
		}
		return m.cases(l)
	})
}

// inTurn is the plan of what is tried in order, up to the first that can't fail: nothing behind it is ever tried.
func inTurn[T any](m *maker, l []T, try func(T) plan) plan {
	var tried []plan
	for _, x := range l {
		p := try(x)
		tried = append(tried, p)
		if p.fails == 0 {
			break
		}
	}
	last := len(tried) - 1
	return plan{tried[last].fails, func(rest *api.Core) *api.Core {
		rest = tried[last].make(rest)
		for i := last - 1; i >= 0; i-- {
			rest = m.orElse(tried[i], rest)
		}
		return rest
	}}
}

// orElse has a name of what stands behind a plan where it would stand in several places: so what is made does not grow with each.
func (m *maker) orElse(p plan, rest *api.Core) *api.Core {
	if p.fails == 1 || leaf(rest) {
		return p.make(rest)
	}
	return m.shared(rest, p.make)
}

// bodies is the plan of a row all whose patterns match.
func (m *maker) bodies(r row) plan {
	last := len(r.rhs) - 1
	return plan{len(r.rhs[last].Guard), func(rest *api.Core) *api.Core {
		m.with(r.names, each(r.are, func(s *subject) *api.Core { return s.is }), func() {
			for i := last; i >= 0; i-- {
				rest = m.body(&r.rhs[i], rest)
			}
		})
		return rest
	}}
}

func (m *maker) body(r *api.Rhs, rest *api.Core) *api.Core {
	c := m.expr(&r.Body)
	for i := range r.Guard {
		c = m.fork(&r.Guard[i], c, rest)
	}
	return c
}

// cases is the plan of rows that all ask the same next. Rows that need another one than those ahead of them may stand ahead of these, since never do both match.
func (m *maker) cases(rows []row) plan {
	first := rows[0].next
	first.of.asked++
	sorted := slices.SortedStableFunc(slices.Values(rows), func(a, b row) int { return cmp.Compare(m.key(a), m.key(b)) })
	branches := each(parts(sorted, m.key), m.branch)
	fails := 0
	for _, b := range branches {
		fails += b.fails
	}
	others := first.pat.Kind == api.PInt || len(branches) < m.cons[first.pat.Name].all
	if others {
		fails++
	}
	return plan{fails, func(rest *api.Core) *api.Core {
		c := node(api.CCase, first.of.is)
		for i := range branches {
			c.Alts = append(c.Alts, *m.alt(&branches[i], rest))
		}
		if others {
			c.Alts = append(c.Alts, api.CAlt{Kind: api.AAny, Body: *rest})
		}
		return c
	}}
}

// branch is the plan of an alternative, which has the fields of what is looked at.
type branch struct {
	plan
	pat    api.Pat
	fields []*subject
}

// branch is that of rows that all need the same next: their fields' patterns, then the others, are still to match.
func (m *maker) branch(rows []row) branch {
	b := branch{pat: rows[0].next.pat}
	b.fields = each(b.pat.Args, func(api.Pat) *subject { return &subject{} })
	b.plan = m.match(each(rows, func(r row) row {
		r.next = ahead(b.fields, r.next.pat.Args, r.next.next)
		return r
	}))
	return b
}

func (m *maker) alt(b *branch, rest *api.Core) *api.CAlt {
	a := &api.CAlt{Kind: api.AInt, N: b.pat.N}
	if b.pat.Kind == api.PCon {
		a = &api.CAlt{Kind: api.ACon, Name: b.pat.Name, N: int64(m.cons[b.pat.Name].tag)}
	}
	m.under(len(b.fields), func(names []string) {
		for i, f := range b.fields {
			f.is = variable(names[i])
		}
		a.Params = names
		a.Body = *b.make(rest)
	})
	return a
}
