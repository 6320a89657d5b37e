package rules

import (
	"changeling/api"
	"changeling/group"
)

// Nest is the groups of bindings that stand side by side; and of each binding the nests of the ELets in it, but of those that stand in these ones' bindings, as they are come to: an expression's Binds are ahead of its Args, and these ahead of its Alts; a guard is ahead of its body.
type Nest struct {
	Groups [][]int
	Inner  [][]Nest
}

// NestOf is the nest of bindings of which layer 9 has no fault, with the groups that layer 11 tells. All that they use is found in one look: to ask for it at each ELet would be to go through what is in it again and again, where they stand in one another.
func NestOf(l []api.Bind) Nest {
	w := &walker{names: map[string]bound{}}
	w.binds(l, func() {})
	return w.nests[0]
}

// row is bindings that stand side by side: which one is gone through, and what each uses of them.
type row struct {
	now  int
	uses [][]int
}

// use notes that the one that is gone through uses another one.
func (r *row) use(place int) {
	if r.now < len(r.uses) {
		r.uses[r.now] = append(r.uses[r.now], place)
	}
}

// bound is as which one of a row a name is bound; without a row it is a pattern's or a lambda's.
type bound struct {
	*row
	place int
}

// walker goes through bindings.
type walker struct {
	names map[string]bound // what is in scope
	nests []Nest           // those in the binding that is gone through, so far
}

// with does something while names are bound otherwise.
func (w *walker) with(names []string, as func(i int) bound, do func()) {
	old := make([]bound, len(names))
	for i, name := range names {
		old[i] = w.names[name]
		w.names[name] = as(i)
	}
	do()
	for i := len(names) - 1; i >= 0; i-- {
		w.names[names[i]] = old[i]
	}
}

// local binds names that are no binding's.
func local(int) bound { return bound{} }

// binds goes through bindings, and adds their nest to those so far; then through what is within them.
func (w *walker) binds(l []api.Bind, within func()) {
	r := &row{uses: make([][]int, len(l))}
	w.with(Names(l), func(i int) bound { return bound{r, i} }, func() {
		nest := Nest{Inner: w.inner(l, r)}
		nest.Groups, _ = group.Groups(r.uses)
		w.nests = append(w.nests, nest)
		within()
	})
}

// inner goes through bindings whose names are in scope, and tells the nests in each.
func (w *walker) inner(l []api.Bind, r *row) [][]Nest {
	outer := w.nests
	var all [][]Nest
	for _, b := range l {
		w.nests = nil
		for _, c := range b.Clauses {
			w.bodies(c.Pats, c.Rhs)
		}
		all = append(all, w.nests)
		r.now++
	}
	w.nests = outer
	return all
}

func (w *walker) bodies(pats []api.Pat, l []api.Rhs) {
	w.with(vars(pats), local, func() {
		for _, r := range l {
			w.exprs(r.Guard)
			w.expr(r.Body)
		}
	})
}

// vars are patterns' variables.
func vars(l []api.Pat) []string {
	var all []string
	var look func([]api.Pat)
	look = func(l []api.Pat) {
		for _, p := range l {
			if p.Kind == api.PVar {
				all = append(all, p.Name)
			}
			look(p.Args)
		}
	}
	look(l)
	return all
}

func (w *walker) exprs(l []api.Expr) {
	for _, e := range l {
		w.expr(e)
	}
}

func (w *walker) expr(e api.Expr) {
	switch e.Kind {
	case api.EVar:
		if b := w.names[e.Name]; b.row != nil {
			b.use(b.place)
		}
	case api.ELam:
		w.with(e.Params, local, func() { w.exprs(e.Args) })
	case api.ELet:
		w.binds(e.Binds, func() { w.exprs(e.Args) })
	default:
		w.exprs(e.Args)
		for _, a := range e.Alts {
			w.bodies([]api.Pat{a.Pat}, a.Rhs)
		}
	}
}
