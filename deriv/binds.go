package deriv

import (
	"slices"

	"changeling/api"
	"changeling/rules"
	"changeling/unify"
)

// binds asks whether the derivations of bindings are right, and what is within them.
func (c *checker) binds(l []api.Bind, d []api.DGroup, within func() bool) bool {
	nest := c.nests[0]
	behind := c.nests[1:]
	if len(d) != len(nest.Groups) {
		return false
	}
	var schemes [][]known
	for i, g := range d {
		if !c.whole(g, nest.Groups[i]) {
			return false
		}
		schemes = append(schemes, c.schemes(g))
	}
	return c.with(rules.Names(l), make([]known, len(l)), func() bool {
		for i, g := range d {
			if !c.group(l, g, nest.Inner) {
				return false
			}
			c.puts(l, g, schemes[i])
		}
		c.nests = behind
		return within()
	})
}

// whole asks whether a group has all its parts, and its variables may be, whatever its members' derivations are.
func (c *checker) whole(g api.DGroup, members []int) bool {
	n := len(members)
	return slices.Equal(g.Members, members) && len(g.Types) == n && len(g.Binds) == n && may(g.Types...) && c.free(g.Vars)
}

// free asks whether variables may be those of a group: no two the same, and none that names from around hold.
func (c *checker) free(vars []int) bool {
	seen := map[int]int{}
	ok := true
look:
	for _, v := range vars {
		seen[v]++
		switch {
		case seen[v] > 1, c.held[v] > 0, !unify.Right(api.Type{Kind: api.KVar, N: v}):
			ok = false
			break look
		}
	}
	return ok
}

// schemes are what is known of a group's members behind it.
func (c *checker) schemes(g api.DGroup) []known {
	var l []known
	for _, s := range rules.Schemes(g) {
		k := known{Scheme: s}
		for _, v := range unify.Vars(s.Type) {
			if c.held[v] > 0 {
				k.held = append(k.held, v)
			}
		}
		l = append(l, k)
	}
	return l
}

// puts tells what is known of a group's members from now on.
func (c *checker) puts(l []api.Bind, g api.DGroup, all []known) {
	for i, m := range g.Members {
		c.put(l[m].Name, all[i])
	}
}

// group asks whether the derivations of a group's members are right, whose names have one type each. The nests are those in each binding.
func (c *checker) group(l []api.Bind, g api.DGroup, inner [][]rules.Nest) bool {
	c.puts(l, g, ones(g.Types))
	ok := true
members:
	for i, m := range g.Members {
		c.nests = inner[m]
		clauses := g.Binds[i].Clauses
		if len(clauses) != len(l[m].Clauses) {
			ok = false
			break
		}
		for j, d := range clauses {
			if !c.clause(l[m].Clauses[j], d, g.Types[i]) {
				ok = false
				break members
			}
		}
	}
	return ok
}

// clause asks whether the derivation of a clause is right, of a binding that has a type.
func (c *checker) clause(l api.Clause, d api.DClause, typ api.Type) bool {
	for _, p := range d.Pats {
		from, to, ok := parted(typ)
		if !ok || !same(from, p.Type) {
			return false
		}
		typ = to
	}
	return c.bodies(l.Pats, d.Pats, l.Rhs, d.Rhs, typ)
}

// bodies asks whether the derivations of patterns, and of what stands behind them, are right; the bodies are to have one type.
func (c *checker) bodies(pats []api.Pat, dPats []api.DPat, l []api.Rhs, d []api.DRhs, typ api.Type) bool {
	var vars row
	if len(d) != len(l) || !c.pats(pats, dPats, &vars) {
		return false
	}
	return c.with(vars.names, ones(vars.types), func() bool {
		for i, r := range l {
			if !c.exprs(r.Guard, d[i].Guard) || !same(d[i].Body.Type, typ) || !c.expr(r.Body, d[i].Body) {
				return false
			}
			for _, guard := range d[i].Guard {
				if !same(guard.Type, rules.Bool()) {
					return false
				}
			}
		}
		return true
	})
}

// row is variables of patterns, with their types.
type row struct {
	names []string
	types []api.Type
}

// pats asks whether the derivations of patterns are right, and adds their variables to a row.
func (c *checker) pats(l []api.Pat, d []api.DPat, vars *row) bool {
	if len(d) != len(l) {
		return false
	}
	for i, p := range l {
		if !may(d[i].Type) || !may(d[i].Inst...) || !c.pat(p, d[i], vars) {
			return false
		}
	}
	return true
}

// pat asks whether the derivation of a pattern is right whose types may be.
func (c *checker) pat(p api.Pat, d api.DPat, vars *row) bool {
	if p.Kind == api.PCon {
		return c.conPat(p, d, vars)
	}
	if len(d.Inst) > 0 || len(d.Args) > 0 {
		return false
	}
	if p.Kind == api.PVar {
		vars.names = append(vars.names, p.Name)
		vars.types = append(vars.types, d.Type)
	}
	return p.Kind != api.PInt || same(d.Type, rules.Int())
}

func (c *checker) conPat(p api.Pat, d api.DPat, vars *row) bool {
	con, _ := c.table.Con(p.Name)
	if len(d.Inst) != con.Params || !same(d.Type, rules.Data(con.Data, d.Inst...)) || !c.pats(p.Args, d.Args, vars) {
		return false
	}
	for i, a := range d.Args {
		if !isWith(a.Type, con.Fields[i], d.Inst) {
			return false
		}
	}
	return true
}
