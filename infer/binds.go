package infer

import (
	"changeling/api"
	"changeling/rules"
)

// binds finds the types of bindings, group by group, then does what is within them.
func (f *finder) binds(l []api.Bind, within func()) []api.DGroup {
	nest := f.nests[0]
	behind := f.nests[1:]
	var all []api.DGroup
	f.with(rules.Names(l), make([]api.Type, len(l)), func() {
		for _, members := range nest.Groups {
			all = append(all, f.group(l, members, nest.Inner))
		}
		f.nests = behind
		within()
	})
	return all
}

// group finds the types of a group's members, which have schemes from then on. The nests are those in each binding.
func (f *finder) group(l []api.Bind, members []int, inner [][]rules.Nest) api.DGroup {
	g := api.DGroup{Members: members, Types: f.fresh(len(members))}
	around := f.apart(func() {
		for i, m := range members {
			f.names[l[m].Name] = known{typ: g.Types[i], depth: f.depth}
		}
		for i, m := range members {
			f.nests = inner[m]
			g.Binds = append(g.Binds, f.bind(l[m], g.Types[i]))
		}
	})
	for i, t := range g.Types {
		g.Types[i] = f.whole(t)
	}
	if f.failed() {
		return api.DGroup{}
	}
	g.Vars = f.free(g.Types, around)
	for i, s := range rules.Schemes(g) {
		f.names[l[members[i]].Name] = known{typ: s.Type, vars: s.Vars, depth: f.depth}
	}
	return g
}

// apart does what is to be done with a group's bindings, and tells the types of the names from around that they use.
func (f *finder) apart(do func()) []api.Type {
	outer := f.used
	f.used = map[string]known{}
	f.depth++
	do()
	f.depth--
	var types []api.Type
	for name, k := range f.used {
		types = append(types, k.typ)
		if k.depth < f.depth {
			outer[name] = k
		}
	}
	f.used = outer
	return types
}

// free are the variables of types that no name from around holds. Only the names that a group uses can have variables in common with it, so none but these are asked. A scheme that is not for all of its variables holds the others: even where the name that has one type with these in it is hidden by one further in.
func (f *finder) free(types, around []api.Type) []int {
	held := map[int]int{}
	for _, v := range f.leaves(around...) {
		held[v]++
	}
	var l []int
	for _, v := range f.leaves(types...) {
		if held[v] == 0 {
			l = append(l, v)
		}
	}
	return l
}

func (f *finder) bind(b api.Bind, typ api.Type) api.DBind {
	var d api.DBind
	for _, c := range b.Clauses {
		d.Clauses = append(d.Clauses, f.clause(c, typ, b.At))
	}
	return d
}

// clause finds the types of a clause of a binding that has a type.
func (f *finder) clause(c api.Clause, typ api.Type, at api.Pos) api.DClause {
	var d api.DClause
	var vars row
	var types []api.Type
	for _, p := range c.Pats {
		pat := f.pat(p, &vars)
		d.Pats = append(d.Pats, pat)
		types = append(types, pat.Type)
	}
	result := f.store.Fresh()
	f.same(typ, rules.From(types, result), at)
	f.with(vars.names, vars.types, func() { d.Rhs = f.bodies(c.Rhs, result) })
	return d
}

// bodies finds the types of bodies that are all to have one.
func (f *finder) bodies(l []api.Rhs, typ api.Type) []api.DRhs {
	var all []api.DRhs
	for _, r := range l {
		var d api.DRhs
		for _, e := range r.Guard {
			d.Guard = append(d.Guard, f.exprAs(e, rules.Bool()))
		}
		d.Body = f.exprAs(r.Body, typ)
		all = append(all, d)
	}
	return all
}

// row is variables of patterns, with their types.
type row struct {
	names []string
	types []api.Type
}

// pat finds the types of a pattern, and adds its variables to a row.
func (f *finder) pat(p api.Pat, vars *row) api.DPat {
	switch p.Kind {
	case api.PInt:
		return api.DPat{Type: rules.Int()}
	case api.PCon:
		return f.conPat(p, vars)
	}
	t := f.store.Fresh()
	if p.Kind == api.PVar {
		vars.names = append(vars.names, p.Name)
		vars.types = append(vars.types, t)
	}
	return api.DPat{Type: t}
}

func (f *finder) conPat(p api.Pat, vars *row) api.DPat {
	con, _ := f.table.Con(p.Name)
	inst := f.fresh(con.Params)
	d := api.DPat{Type: rules.Data(con.Data, inst...), Inst: inst}
	for i, a := range p.Args {
		arg := f.pat(a, vars)
		f.same(arg.Type, rules.With(con.Fields[i], inst), a.At)
		d.Args = append(d.Args, arg)
	}
	return d
}
