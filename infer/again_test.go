package infer_test

import (
	"fmt"
	"maps"
	"slices"
	"strings"
	"testing"

	"changeling/api"
	"changeling/decl"
	"changeling/deriv"
	"changeling/group"
	"changeling/infer"
	"changeling/parse"
	"changeling/scope"
	"changeling/show"
	"changeling/unify"
)

// The chapter's words once more: types are found with what variables are in a list of changes that is looked through anew each time; all names that are in scope around are told to each part, and all that have one type are asked for their variables.

// there is a name in scope.
type there struct {
	name string
	typ  api.Type
	vars []int
	one  bool // it has one type
}

type model struct {
	table *decl.Table
	what  map[int]api.Type // what each variable is
	fresh int
}

func variable(n int) api.Type { return api.Type{Kind: api.KVar, N: n} }

func con(name string, args ...api.Type) api.Type {
	return api.Type{Kind: api.KCon, Name: name, Args: args}
}

func fun(a, b api.Type) api.Type { return api.Type{Kind: api.KFun, Args: []api.Type{a, b}} }

func (m *model) next() api.Type {
	m.fresh++
	return variable(3 * m.fresh)
}

// top is a type as it is known on its outside.
func (m *model) top(t api.Type) api.Type {
	for t.Kind == api.KVar {
		u, ok := m.what[t.N]
		if !ok {
			break
		}
		t = u
	}
	return t
}

// tooLarge is more than a type may have.
const tooLarge = 4 * api.MaxType

// full is a type as it is known; it stops at what is too large.
func (m *model) full(t api.Type, room *int) api.Type {
	*room--
	if t = m.top(t); *room < 0 {
		return t
	}
	var args []api.Type
	for _, a := range t.Args {
		args = append(args, m.full(a, room))
	}
	t.Args = args
	return t
}

// whole is a type as it is known, and whether it is not too large.
func (m *model) whole(t api.Type) (api.Type, bool) {
	room := tooLarge
	t = m.full(t, &room)
	return t, room >= tooLarge-api.MaxType
}

// has tells whether a variable is in a type.
func (m *model) has(t api.Type, v int) bool {
	t = m.top(t)
	return t.Kind == api.KVar && t.N == v || slices.ContainsFunc(t.Args, func(a api.Type) bool { return m.has(a, v) })
}

func (m *model) unify(a, b api.Type) api.Errno {
	a, b = m.top(a), m.top(b)
	if b.Kind == api.KVar {
		a, b = b, a
	}
	switch {
	case a.Kind == api.KVar && b.Kind == api.KVar && a.N == b.N:
		return api.OK
	case a.Kind == api.KVar && m.has(b, a.N):
		return api.ErrCycle
	case a.Kind == api.KVar:
		m.what[a.N] = b
		return api.OK
	case a.Kind != b.Kind || a.Name != b.Name || len(a.Args) != len(b.Args):
		return api.ErrType
	}
	for i := range a.Args {
		if err := m.unify(a.Args[i], b.Args[i]); err != api.OK {
			return err
		}
	}
	return api.OK
}

// same makes types the same, or leaves all that is done with the fault.
func (m *model) same(a, b api.Type, at api.Pos) {
	if err := m.unify(a, b); err != api.OK {
		panic(api.Fault{Err: err, At: at})
	}
}

// instance is a type with new variables in the place of some.
func (m *model) instance(t api.Type, vars []int) api.Deriv {
	var inst []api.Type
	for range vars {
		inst = append(inst, m.next())
	}
	return api.Deriv{Type: unify.Subst(t, vars, inst), Inst: inst}
}

func (m *model) binds(l []api.Bind, around []there) ([]api.DGroup, []there) {
	inner := slices.Clone(around)
	var all []api.DGroup
	for _, members := range group.Binds(l) {
		g := api.DGroup{Members: members}
		within := slices.Clone(inner)
		for _, n := range members {
			v := m.next()
			g.Types = append(g.Types, v)
			within = append(within, there{name: l[n].Name, typ: v, one: true})
		}
		for i, n := range members {
			var d api.DBind
			for _, c := range l[n].Clauses {
				d.Clauses = append(d.Clauses, m.clause(c, g.Types[i], l[n].At, within))
			}
			g.Binds = append(g.Binds, d)
		}
		g.Vars = m.vars(g.Types, around)
		for i, n := range members {
			t, _ := m.whole(g.Types[i])
			var vars []int
			for _, v := range unify.Vars(t) {
				if slices.Contains(g.Vars, v) {
					vars = append(vars, v)
				}
			}
			inner = append(inner, there{name: l[n].Name, typ: t, vars: vars})
		}
		all = append(all, g)
	}
	return all, inner
}

// vars are a group's, if no type is too large.
func (m *model) vars(types []api.Type, around []there) []int {
	var vars []int
	for _, t := range types {
		all, ok := m.whole(t)
		if !ok {
			panic(api.Fault{Err: api.ErrLarge, At: at(1, 1)})
		}
		for _, v := range unify.Vars(all) {
			held := func(x there) bool { return x.one && m.has(x.typ, v) }
			if !slices.Contains(vars, v) && !slices.ContainsFunc(around, held) {
				vars = append(vars, v)
			}
		}
	}
	return vars
}

func (m *model) clause(c api.Clause, typ api.Type, at api.Pos, around []there) api.DClause {
	var d api.DClause
	for _, p := range c.Pats {
		d.Pats = append(d.Pats, m.pat(p, &around))
	}
	result := m.next()
	whole := result
	for _, p := range slices.Backward(d.Pats) {
		whole = fun(p.Type, whole)
	}
	m.same(typ, whole, at)
	d.Rhs = m.bodies(c.Rhs, result, around)
	return d
}

func (m *model) bodies(l []api.Rhs, typ api.Type, around []there) []api.DRhs {
	var all []api.DRhs
	for _, r := range l {
		var d api.DRhs
		if len(r.Guard) > 0 {
			d.Guard = []api.Deriv{m.expr(r.Guard[0], around)}
			m.same(con("Bool"), d.Guard[0].Type, r.Guard[0].At)
		}
		d.Body = m.expr(r.Body, around)
		m.same(d.Body.Type, typ, r.Body.At)
		all = append(all, d)
	}
	return all
}

func (m *model) pat(p api.Pat, around *[]there) api.DPat {
	switch p.Kind {
	case api.PInt:
		return api.DPat{Type: con("Int")}
	case api.PCon:
		c, _ := m.table.Con(p.Name)
		var d api.DPat
		vars := make([]int, c.Params)
		for i := range vars {
			vars[i] = i
			d.Inst = append(d.Inst, m.next())
		}
		d.Type = con(c.Data, d.Inst...)
		for i, a := range p.Args {
			d.Args = append(d.Args, m.pat(a, around))
			m.same(unify.Subst(c.Fields[i], vars, d.Inst), d.Args[i].Type, a.At)
		}
		return d
	}
	v := m.next()
	*around = append(slices.Clone(*around), there{name: p.Name, typ: v, one: true})
	return api.DPat{Type: v}
}

func (m *model) expr(e api.Expr, around []there) api.Deriv {
	switch e.Kind {
	case api.EVar:
		if strings.Contains("+ - * / %", e.Name) {
			return api.Deriv{Type: fun(con("Int"), fun(con("Int"), con("Int")))}
		}
		for _, x := range slices.Backward(around) {
			if x.name == e.Name {
				return m.instance(x.typ, x.vars)
			}
		}
		return api.Deriv{Type: fun(con("Int"), fun(con("Int"), con("Bool")))}
	case api.ECon:
		t, _ := m.table.Type(e.Name)
		c, _ := m.table.Con(e.Name)
		vars := []int{0, 1, 2, 3}
		return m.instance(t, vars[:c.Params])
	case api.EApp:
		d := api.Deriv{Args: []api.Deriv{m.expr(e.Args[0], around), m.expr(e.Args[1], around)}, Type: m.next()}
		m.same(fun(d.Args[1].Type, d.Type), d.Args[0].Type, e.At)
		return d
	case api.ELam:
		inner := slices.Clone(around)
		for _, x := range e.Params {
			inner = append(inner, there{name: x, typ: m.next(), one: true})
		}
		d := api.Deriv{Args: []api.Deriv{m.expr(e.Args[0], inner)}}
		d.Type = d.Args[0].Type
		for _, x := range slices.Backward(inner[len(around):]) {
			d.Type = fun(x.typ, d.Type)
		}
		return d
	case api.ELet:
		groups, inner := m.binds(e.Binds, around)
		d := m.expr(e.Args[0], inner)
		return api.Deriv{Type: d.Type, Args: []api.Deriv{d}, Groups: groups}
	case api.ECase:
		d := api.Deriv{Args: []api.Deriv{m.expr(e.Args[0], around)}, Type: m.next()}
		for _, a := range e.Alts {
			inner := around
			p := m.pat(a.Pat, &inner)
			m.same(p.Type, d.Args[0].Type, a.Pat.At)
			d.Alts = append(d.Alts, api.DAlt{Pat: p, Rhs: m.bodies(a.Rhs, d.Type, inner)})
		}
		return d
	case api.EIf:
		first := m.expr(e.Args[0], around)
		m.same(first.Type, con("Bool"), e.Args[0].At)
		second, third := m.expr(e.Args[1], around), m.expr(e.Args[2], around)
		m.same(third.Type, second.Type, e.Args[2].At)
		return api.Deriv{Type: second.Type, Args: []api.Deriv{first, second, third}}
	}
	return api.Deriv{Type: con("Int")}
}

// modelled is a program's derivation, or its fault.
func modelled(p api.Program) (t api.Typing, f api.Fault) {
	if f := scope.Check(p); f.Err != api.OK {
		return t, f
	}
	defer func() {
		if x := recover(); x != nil {
			t, f = api.Typing{}, x.(api.Fault)
		}
	}()
	table, _ := decl.New(p.Datas)
	m := &model{table: table, what: map[int]api.Type{}}
	t.Groups, _ = m.binds(p.Binds, nil)
	m.settle(t.Groups)
	return t, f
}

func (m *model) settled(t *api.Type) {
	all, ok := m.whole(*t)
	if !ok {
		panic(api.Fault{Err: api.ErrLarge, At: at(1, 1)})
	}
	*t = all
}

func (m *model) settle(l []api.DGroup) {
	each(l, visitor{m.settled})
}

// visitor changes the types of derivations.
type visitor struct{ typ func(*api.Type) }

func each(l []api.DGroup, v visitor) {
	for _, g := range l {
		v.types(g.Types)
		for _, b := range g.Binds {
			for _, c := range b.Clauses {
				for i := range c.Pats {
					v.pat(&c.Pats[i])
				}
				v.bodies(c.Rhs)
			}
		}
	}
}

func (v visitor) types(l []api.Type) {
	for i := range l {
		v.typ(&l[i])
	}
}

func (v visitor) pat(d *api.DPat) {
	v.typ(&d.Type)
	v.types(d.Inst)
	for i := range d.Args {
		v.pat(&d.Args[i])
	}
}

func (v visitor) bodies(l []api.DRhs) {
	for i := range l {
		for j := range l[i].Guard {
			v.expr(&l[i].Guard[j])
		}
		v.expr(&l[i].Body)
	}
}

func (v visitor) expr(d *api.Deriv) {
	v.typ(&d.Type)
	v.types(d.Inst)
	each(d.Groups, v)
	for i := range d.Args {
		v.expr(&d.Args[i])
	}
	for i := range d.Alts {
		v.pat(&d.Alts[i].Pat)
		v.bodies(d.Alts[i].Rhs)
	}
}

// chain makes choices, always the same.
type chain uint32

func (c *chain) pick(n int) int {
	*c = *c*1664525 + 1013904223
	return int(*c>>16) % n
}

// making makes programs most of whose parts have the types that are asked of them; once in so many times one has another one.
type making struct {
	chain
	wrong int
	line  int
}

func (m *making) slip() bool { return m.pick(m.wrong) == 0 }

// place is one that nothing else has.
func (m *making) place() api.Pos {
	m.line++
	return at(m.line, 1+m.pick(90))
}

// typ is a type, with some variables that stand for any.
func (m *making) typ(depth, vars int) api.Type {
	n := m.pick(12)
	switch {
	case vars > 0 && n < 4:
		return variable(m.pick(vars))
	case depth == 0 || n < 7:
		return con([]string{"Int", "Int", "Bool"}[m.pick(3)])
	case n < 8:
		return con("L", m.typ(depth-1, vars))
	case n < 9:
		return con("P", m.typ(depth-1, vars), m.typ(depth-1, vars))
	case n < 10:
		return con("F", m.typ(depth-1, vars), m.typ(depth-1, vars))
	}
	return fun(m.typ(depth-1, vars), m.typ(depth-1, vars))
}

func (m *making) name() string { return []string{"x", "y", "z", "u", "v", "w"}[m.pick(6)] }

// fits finds what stands in the place of variables, if a type is another one with that.
func fits(t, of api.Type, vars []int, with map[int]api.Type) bool {
	if of.Kind == api.KVar && slices.Contains(vars, of.N) {
		if old, ok := with[of.N]; ok {
			return written(old) == written(t)
		}
		with[of.N] = t
		return true
	}
	if t.Kind != of.Kind || t.N != of.N || t.Name != of.Name {
		return false
	}
	for i := range t.Args {
		if !fits(t.Args[i], of.Args[i], vars, with) {
			return false
		}
	}
	return true
}

func (m *making) apply(f api.Expr, l ...api.Expr) api.Expr {
	for _, a := range l {
		f = api.Expr{Kind: api.EApp, Args: []api.Expr{f, a}, At: m.place()}
	}
	return f
}

func (m *making) leaf(kind int, name string, n int) api.Expr {
	return api.Expr{Kind: kind, Name: name, N: int64(n), At: m.place()}
}

// named is a name in scope, as many times applied as it needs to have a type.
func (m *making) named(t api.Type, depth int, around []there) (api.Expr, bool) {
	for range 6 {
		if len(around) == 0 {
			break
		}
		i := m.pick(len(around))
		x := around[i]
		if slices.ContainsFunc(around[i+1:], func(y there) bool { return y.name == x.name }) {
			continue
		}
		var from []api.Type
		for to := x.typ; ; to = to.Args[1] {
			with := map[int]api.Type{}
			if fits(t, to, x.vars, with) {
				e := m.leaf(api.EVar, x.name, 0)
				for _, a := range from {
					for _, v := range x.vars {
						if _, ok := with[v]; !ok {
							with[v] = m.typ(1, 0)
						}
					}
					keys := slices.Sorted(maps.Keys(with))
					var l []api.Type
					for _, k := range keys {
						l = append(l, with[k])
					}
					e = m.apply(e, m.expr(unify.Subst(a, keys, l), depth-1, around))
				}
				return e, true
			}
			if to.Kind != api.KFun || depth == 0 {
				break
			}
			from = append(from, to.Args[0])
		}
	}
	return api.Expr{}, false
}

// expr is an expression of a type, if nothing slips.
func (m *making) expr(t api.Type, depth int, around []there) api.Expr {
	if m.slip() {
		if e, ok := m.slipped(depth, around); ok {
			return e
		}
		t = m.typ(1, 0)
	}
	depth = max(depth, 0)
	if e, ok := m.named(t, depth, around); ok && m.pick(3) > 0 {
		return e
	}
	if depth > 0 && m.pick(3) > 0 {
		switch m.pick(6) {
		case 0:
			return api.Expr{Kind: api.EIf, Args: []api.Expr{m.expr(con("Bool"), depth-1, around), m.expr(t, depth-1, around), m.expr(t, depth-1, around)}, At: m.place()}
		case 1:
			return m.choice(t, depth-1, around)
		case 2, 3:
			l, inner := m.binds(1+m.pick(3), depth-1, around)
			return api.Expr{Kind: api.ELet, Binds: l, Args: []api.Expr{m.expr(t, depth-1, inner)}, At: m.place()}
		case 4:
			a := m.typ(1, 0)
			return m.apply(m.expr(fun(a, t), depth-1, around), m.expr(a, depth-1, around))
		}
	}
	return m.made(t, depth, around)
}

// slipped is a name that is applied to itself, or alone.
func (m *making) slipped(depth int, around []there) (api.Expr, bool) {
	if len(around) == 0 || m.pick(2) == 0 {
		return api.Expr{}, false
	}
	e := m.leaf(api.EVar, around[m.pick(len(around))].name, 0)
	if m.pick(2) == 0 {
		return e, true
	}
	return m.apply(e, m.leaf(api.EVar, e.Name, 0)), true
}

// made is what is made by the kind of the type.
func (m *making) made(t api.Type, depth int, around []there) api.Expr {
	var args []api.Expr
	switch {
	case t.Kind == api.KFun:
		name := m.name()
		if m.pick(4) == 0 {
			name = "_"
		}
		e := api.Expr{Kind: api.ELam, Params: []string{name}, At: m.place()}
		inner := append(slices.Clone(around), there{name: name, typ: t.Args[0]})
		if next := t.Args[1]; next.Kind == api.KFun && m.pick(2) == 0 && name == "_" {
			e.Params = append(e.Params, "q")
			inner, t = append(inner, there{name: "q", typ: next.Args[0]}), next
		}
		if name == "_" {
			inner = slices.Delete(inner, len(around), len(around)+1)
		}
		e.Args = []api.Expr{m.expr(t.Args[1], depth-1, inner)}
		return e
	case t.Kind == api.KVar: // nothing is of all types but what never comes to anything
		e := m.leaf(api.EVar, "q", 0)
		return api.Expr{Kind: api.ELet, Binds: []api.Bind{{Name: "q", Clauses: []api.Clause{{Rhs: []api.Rhs{{Body: e}}}}, At: m.place()}}, Args: []api.Expr{e}, At: m.place()}
	case t.Name == "L" && (depth == 0 || m.pick(2) == 0):
		return m.leaf(api.ECon, "N", 0)
	case t.Name == "L":
		return m.apply(m.leaf(api.ECon, "C", 0), m.expr(t.Args[0], depth-1, around), m.expr(t, depth-1, around))
	case t.Name == "P":
		for _, a := range t.Args {
			args = append(args, m.expr(a, depth-1, around))
		}
		return m.apply(m.leaf(api.ECon, "P", 0), args...)
	case t.Name == "F":
		return m.apply(m.leaf(api.ECon, "F", 0), m.expr(fun(t.Args[0], t.Args[1]), depth-1, around))
	case depth > 0 && m.pick(3) == 0:
		op := []string{"+", "*", "-"}[m.pick(3)]
		if t.Name == "Bool" {
			op = []string{"==", "<", ">="}[m.pick(3)]
		}
		return m.apply(m.leaf(api.EVar, op, 0), m.expr(con("Int"), depth-1, around), m.expr(con("Int"), depth-1, around))
	case t.Name == "Bool":
		return m.leaf(api.ECon, []string{"True", "False"}[m.pick(2)], 0)
	}
	return m.leaf(api.EInt, "", m.pick(3))
}

func (m *making) choice(t api.Type, depth int, around []there) api.Expr {
	of := m.typ(2, 0)
	e := api.Expr{Kind: api.ECase, Args: []api.Expr{m.expr(of, depth, around)}, At: m.place()}
	for range 1 + m.pick(2) {
		inner := slices.Clone(around)
		p := m.pat(of, 2, &inner, len(around))
		e.Alts = append(e.Alts, api.Alt{Pat: p, Rhs: m.bodies(t, depth, inner)})
	}
	return e
}

// pat is a pattern of a type; the names that it adds differ from those from a place on.
func (m *making) pat(t api.Type, depth int, around *[]there, from int) api.Pat {
	if m.slip() {
		t = m.typ(1, 0)
	}
	p := api.Pat{Kind: api.PAny, At: m.place()}
	fields := func(name string, l ...api.Type) {
		p.Kind, p.Name = api.PCon, name
		for _, f := range l {
			p.Args = append(p.Args, m.pat(f, depth-1, around, from))
		}
	}
	switch {
	case m.pick(3) == 0 || depth == 0:
		name := m.name()
		if !slices.ContainsFunc((*around)[from:], func(x there) bool { return x.name == name }) {
			p.Kind, p.Name = api.PVar, name
			*around = append(*around, there{name: name, typ: t})
		}
	case t.Name == "Int":
		p.Kind, p.N = api.PInt, int64(m.pick(3))
	case t.Name == "Bool":
		fields([]string{"True", "False"}[m.pick(2)])
	case t.Name == "L" && m.pick(2) == 0:
		fields("N")
	case t.Name == "L":
		fields("C", t.Args[0], t)
	case t.Name == "P":
		fields("P", t.Args...)
	case t.Name == "F":
		fields("F", fun(t.Args[0], t.Args[1]))
	}
	return p
}

func (m *making) bodies(t api.Type, depth int, around []there) []api.Rhs {
	if m.pick(3) > 0 {
		return []api.Rhs{{Body: m.expr(t, depth, around)}}
	}
	var l []api.Rhs
	for range 1 + m.pick(2) {
		l = append(l, api.Rhs{Guard: []api.Expr{m.expr(con("Bool"), min(depth, 1), around)}, Body: m.expr(t, depth, around)})
	}
	return l
}

// binds are so many bindings, at most, and what is in scope within them.
func (m *making) binds(n, depth int, around []there) ([]api.Bind, []there) {
	inner, behind := slices.Clone(around), slices.Clone(around)
	var types []api.Type
	var names []string
	for range n {
		name := []string{"f", "g", "h", "x", "y", "!"}[m.pick(6)]
		if slices.Contains(names, name) {
			continue
		}
		vars := 0
		if m.pick(2) == 0 {
			vars = 3
		}
		t := m.typ(1, vars)
		for range m.pick(3) {
			t = fun(m.typ(1, vars), t)
		}
		// Within, the variables are types of their own; behind, they stand for all.
		base := 1000 + 10*m.line + len(names)
		t = unify.Subst(t, []int{0, 1, 2}, []api.Type{con(fmt.Sprint("V", base, "a")), con(fmt.Sprint("V", base, "b")), con(fmt.Sprint("V", base, "c"))})
		names, types = append(names, name), append(types, t)
		inner = append(inner, there{name: name, typ: t})
		behind = append(behind, open(there{name: name, typ: t}))
	}
	var l []api.Bind
	for i, name := range names {
		b := api.Bind{Name: name, At: m.place()}
		pats, clauses := m.pick(3), 1
		for k, t := 0, types[i]; k < pats; k++ {
			if t.Kind != api.KFun {
				pats = k
				break
			}
			t = t.Args[1]
		}
		if pats > 0 {
			clauses += m.pick(2)
		}
		for range clauses {
			around := inner
			if m.pick(2) == 0 {
				around = slices.Concat(behind[:len(behind)-len(names)], inner[len(inner)-len(names):][:i+1], behind[len(behind)-len(names):][i+1:])
			}
			from := len(around)
			around = slices.Clone(around)
			var c api.Clause
			t := types[i]
			for range pats {
				c.Pats = append(c.Pats, m.pat(t.Args[0], 2, &around, from))
				t = t.Args[1]
			}
			c.Rhs = m.bodies(t, depth, around)
			b.Clauses = append(b.Clauses, c)
		}
		l = append(l, b)
	}
	return l, behind
}

// open is a name's type with variables in the place of the types that stand for all.
func open(x there) there {
	var look func(api.Type) api.Type
	look = func(t api.Type) api.Type {
		if strings.HasPrefix(t.Name, "V") {
			n := 0
			fmt.Sscanf(t.Name, "V%d", &n)
			n = 10*n + int(t.Name[len(t.Name)-1])
			if !slices.Contains(x.vars, n) {
				x.vars = append(x.vars, n)
			}
			return variable(n)
		}
		t.Args = slices.Clone(t.Args)
		for i, a := range t.Args {
			t.Args[i] = look(a)
		}
		return t
	}
	x.typ = look(x.typ)
	return x
}

func (m *making) program() api.Program {
	p, _ := parse.Program(datas)
	m.line = 0
	p.Binds, _ = m.binds(1+m.pick(5), 1+m.pick(4), nil)
	return p
}

// P12.1, P12.2, P13.4

func TestManyPrograms(t *testing.T) {
	count := map[api.Errno]int{}
	m := &making{chain: 1}
	groups, vars := 0, 0
	for i := range 8000 {
		m.wrong = 20 + 20*(i%30)
		p := m.program()
		want, f := modelled(p)
		got, g := infer.Program(p)
		if f != g || texts(got.Groups) != texts(want.Groups) {
			t.Fatalf("%v, not %v, of\n%s\n%s\n%s", g, f, show.Program(p), texts(got.Groups), texts(want.Groups))
		}
		if f.Err == api.OK && deriv.Check(p, got) != api.OK {
			t.Fatalf("%s\n%s", show.Program(p), texts(got.Groups))
		}
		count[f.Err]++
		groups = max(groups, strings.Count(texts(got.Groups), "{"))
		for _, g := range got.Groups {
			vars = max(vars, len(g.Vars))
		}
	}
	if count[api.OK] < 4000 || count[api.ErrType] < 1000 || count[api.ErrCycle] < 100 || groups < 15 || vars < 4 {
		t.Error(count, groups, vars)
	}
}

// P12.4, P12.5, on many programs.

func TestManyOthers(t *testing.T) {
	m := &making{chain: 2, wrong: 300}
	good := 0
	for range 2500 {
		p := m.program()
		l, f := infer.Schemes(p)
		stripped, g := infer.Schemes(parse.Strip(p))
		if f.Err != g.Err || fmt.Sprint(l) != fmt.Sprint(stripped) {
			t.Fatal(show.Program(p))
		}
		if f.Err != api.OK {
			continue
		}
		good++
		i := m.pick(len(p.Binds))
		q := p
		q.Binds = slices.Concat(p.Binds[i:], p.Binds[:i])
		turned, f := infer.Schemes(q)
		if f.Err != api.OK || fmt.Sprint(slices.Concat(l[i:], l[:i])) != fmt.Sprint(turned) {
			t.Fatal(show.Program(p))
		}
		around := []there{}
		for k, s := range l {
			around = append(around, there{name: p.Binds[k].Name, typ: s.Type, vars: s.Vars})
		}
		q.Binds = slices.Insert(slices.Clone(p.Binds), i, api.Bind{Name: "more", Clauses: []api.Clause{{Rhs: []api.Rhs{{Body: m.expr(m.typ(1, 0), 3, around)}}}}})
		if more, f := infer.Schemes(q); f.Err == api.OK {
			if more = slices.Delete(more, i, i+1); fmt.Sprint(more) != fmt.Sprint(l) {
				t.Fatal(show.Program(q))
			}
		}
	}
	if good < 1500 {
		t.Error(good)
	}
}
