package deriv_test

import (
	"fmt"
	"maps"
	"reflect"
	"slices"
	"strings"
	"testing"

	"changeling/api"
	"changeling/decl"
	"changeling/deriv"
	"changeling/group"
	"changeling/infer"
	"changeling/scope"
	"changeling/show"
	"changeling/unify"
)

// The rules once more: each type that a part is to have is made and held against it as a text, and all that is in scope is told to each part.

// there is a name in scope; those held are variables that may not be Vars within.
type there struct {
	scheme api.Scheme
	held   []int
}

type rules struct {
	table *decl.Table
	wrong int
}

func (r *rules) ask(ok bool) {
	if !ok {
		r.wrong++
	}
}

// text is a type as it is, all its fields.
func text(t api.Type) string { return fmt.Sprintf("%d %d %q %s", t.Kind, t.N, t.Name, textOf(t.Args)) }

func textOf(l []api.Type) string {
	var all []string
	for _, t := range l {
		all = append(all, text(t))
	}
	return "(" + strings.Join(all, ", ") + ")"
}

func (r *rules) same(a, b api.Type) { r.ask(text(a) == text(b)) }

func (r *rules) types(l ...api.Type) {
	for _, t := range l {
		r.ask(unify.Right(t) && unify.Size(t) <= api.MaxType)
	}
}

// heldBy are the variables that names in scope hold.
func heldBy(around map[string]there) []int {
	var all []int
	for _, x := range around {
		all = append(all, x.held...)
	}
	return all
}

// with is what is in scope with more names, of one type each.
func with(around map[string]there, names []string, types []api.Type) map[string]there {
	inner := maps.Clone(around)
	for i, name := range names {
		inner[name] = there{api.Scheme{Type: types[i]}, unify.Vars(types[i])}
	}
	return inner
}

// binds asks of bindings, and tells what is in scope within them.
func (r *rules) binds(l []api.Bind, d []api.DGroup, around map[string]there) map[string]there {
	groups := group.Binds(l)
	if r.ask(len(d) == len(groups)); len(d) != len(groups) {
		return around
	}
	inner := maps.Clone(around)
	for _, b := range l {
		delete(inner, b.Name)
	}
	for i, g := range d {
		r.types(g.Types...)
		if !slices.Equal(g.Members, groups[i]) || len(g.Types) != len(g.Members) || len(g.Binds) != len(g.Members) {
			r.ask(false)
			return around
		}
		for k, v := range g.Vars {
			r.ask(v >= 0 && v <= 1<<30 && !slices.Contains(g.Vars[:k], v) && !slices.Contains(heldBy(around), v))
		}
		var names []string
		for _, m := range g.Members {
			names = append(names, l[m].Name)
		}
		within := with(inner, names, g.Types)
		for k, m := range g.Members {
			r.ask(len(g.Binds[k].Clauses) == len(l[m].Clauses))
			for j := range min(len(g.Binds[k].Clauses), len(l[m].Clauses)) {
				r.clause(l[m].Clauses[j], g.Binds[k].Clauses[j], g.Types[k], within)
			}
			x := there{scheme: api.Scheme{Type: g.Types[k]}}
			for _, v := range unify.Vars(g.Types[k]) {
				if slices.Contains(g.Vars, v) {
					x.scheme.Vars = append(x.scheme.Vars, v)
				}
				if slices.Contains(heldBy(around), v) {
					x.held = append(x.held, v)
				}
			}
			inner[l[m].Name] = x
		}
	}
	return inner
}

func (r *rules) clause(c api.Clause, d api.DClause, typ api.Type, around map[string]there) {
	if len(c.Pats) != len(d.Pats) || len(c.Rhs) != len(d.Rhs) {
		r.ask(false)
		return
	}
	for i, x := range d.Rhs {
		whole := x.Body.Type
		for _, p := range slices.Backward(d.Pats) {
			whole = api.Type{Kind: api.KFun, Args: []api.Type{p.Type, whole}}
		}
		r.same(whole, typ)
		r.rhs(c.Rhs[i], x, r.patterns(c.Pats, d.Pats, around))
	}
}

func (r *rules) rhs(c api.Rhs, d api.DRhs, around map[string]there) {
	if r.ask(len(c.Guard) == len(d.Guard)); len(c.Guard) == len(d.Guard) && len(c.Guard) > 0 {
		r.same(d.Guard[0].Type, typ("Bool"))
		r.expr(c.Guard[0], d.Guard[0], around)
	}
	r.expr(c.Body, d.Body, around)
}

func (r *rules) patterns(l []api.Pat, d []api.DPat, around map[string]there) map[string]there {
	for i, p := range l {
		around = r.pat(p, d[i], around)
	}
	return around
}

func (r *rules) pat(p api.Pat, d api.DPat, around map[string]there) map[string]there {
	r.types(d.Type)
	r.types(d.Inst...)
	if len(p.Args) != len(d.Args) {
		r.ask(false)
		return around
	}
	switch p.Kind {
	case api.PCon:
		c, _ := r.table.Con(p.Name)
		r.ask(len(d.Inst) == c.Params)
		r.same(d.Type, api.Type{Kind: api.KCon, Name: c.Data, Args: d.Inst})
		for i, a := range d.Args {
			r.same(a.Type, unify.Subst(c.Fields[i], []int{0, 1, 2}[:c.Params], d.Inst))
		}
		return r.patterns(p.Args, d.Args, around)
	case api.PInt:
		r.same(d.Type, typ("Int"))
	case api.PVar:
		around = with(around, []string{p.Name}, []api.Type{d.Type})
	}
	r.ask(len(d.Inst) == 0)
	return around
}

func (r *rules) instance(d api.Deriv, s api.Scheme) {
	r.ask(len(d.Inst) == len(s.Vars))
	r.same(d.Type, unify.Subst(s.Type, s.Vars, d.Inst))
}

func (r *rules) expr(e api.Expr, d api.Deriv, around map[string]there) {
	r.types(d.Type)
	r.types(d.Inst...)
	r.ask(len(d.Inst) == 0 || e.Kind == api.EVar || e.Kind == api.ECon)
	r.ask(len(d.Groups) == 0 || e.Kind == api.ELet)
	if len(d.Args) != len(e.Args) || len(d.Alts) != len(e.Alts) {
		r.ask(false)
		return
	}
	inner := around
	switch e.Kind {
	case api.EVar:
		s := around[e.Name].scheme
		if strings.Contains("+ - * / %", e.Name) {
			s.Type = typ("Int -> Int -> Int")
		} else if s.Type.Kind == 0 && strings.Contains("== /= < <= > >=", e.Name) {
			s.Type = typ("Int -> Int -> Bool")
		}
		r.instance(d, s)
	case api.ECon:
		c, _ := r.table.Con(e.Name)
		t, _ := r.table.Type(e.Name)
		r.instance(d, api.Scheme{Vars: []int{0, 1, 2}[:c.Params], Type: t})
	case api.EInt:
		r.same(d.Type, typ("Int"))
	case api.EApp:
		r.same(d.Args[0].Type, api.Type{Kind: api.KFun, Args: []api.Type{d.Args[1].Type, d.Type}})
	case api.ELam:
		var types []api.Type
		t := d.Type
		for range e.Params {
			if t.Kind != api.KFun || len(t.Args) != 2 {
				r.ask(false)
				return
			}
			types, t = append(types, t.Args[0]), t.Args[1]
		}
		r.same(t, d.Args[0].Type)
		inner = with(around, e.Params, types)
		delete(inner, "_")
	case api.ELet:
		inner = r.binds(e.Binds, d.Groups, around)
		r.same(d.Type, d.Args[0].Type)
	case api.EIf:
		r.same(d.Args[0].Type, typ("Bool"))
		r.same(d.Args[1].Type, d.Type)
		r.same(d.Args[2].Type, d.Type)
	}
	for i, a := range d.Args {
		r.expr(e.Args[i], a, inner)
	}
	for i, a := range d.Alts {
		r.same(a.Pat.Type, d.Args[0].Type)
		within := r.pat(e.Alts[i].Pat, a.Pat, around)
		r.ask(len(a.Rhs) == len(e.Alts[i].Rhs))
		for j := range min(len(a.Rhs), len(e.Alts[i].Rhs)) {
			r.same(a.Rhs[j].Body.Type, d.Type)
			r.rhs(e.Alts[i].Rhs[j], a.Rhs[j], within)
		}
	}
}

// ruled is what the rules say of a derivation.
func ruled(p api.Program, t api.Typing) api.Errno {
	table, _ := decl.New(p.Datas)
	r := &rules{table: table}
	r.binds(p.Binds, t.Groups, map[string]there{})
	if r.wrong > 0 {
		return api.ErrDeriv
	}
	return api.OK
}

// chain makes choices, always the same.
type chain uint32

func (c *chain) pick(n int) int {
	*c = *c*1664525 + 1013904223
	return int(*c>>16) % n
}

// copied is a value in new memory.
func copied(v reflect.Value) reflect.Value {
	w := reflect.New(v.Type()).Elem()
	switch v.Kind() {
	case reflect.Slice:
		for i := range v.Len() {
			w = reflect.Append(w, copied(v.Index(i)))
		}
	case reflect.Struct:
		for i := range v.NumField() {
			w.Field(i).Set(copied(v.Field(i)))
		}
	default:
		w.Set(v)
	}
	return w
}

// spots are all places in a value that can be changed, but those in types.
func spots(v reflect.Value, all *[]reflect.Value) {
	*all = append(*all, v)
	switch {
	case v.Type() == reflect.TypeFor[api.Type]():
	case v.Kind() == reflect.Slice:
		for i := range v.Len() {
			spots(v.Index(i), all)
		}
	case v.Kind() == reflect.Struct:
		for i := range v.NumField() {
			spots(v.Field(i), all)
		}
	}
}

// another is a type in the place of one.
func (c *chain) another(t api.Type) api.Type {
	t = copied(reflect.ValueOf(t)).Interface().(api.Type)
	switch n := c.pick(12); {
	case n < 3 && len(t.Args) > 0:
		i := c.pick(len(t.Args))
		t.Args[i] = c.another(t.Args[i])
		return t
	case n == 3 && len(t.Args) > 0:
		return t.Args[c.pick(len(t.Args))]
	case n == 4:
		t.Name += []string{"x", "L"}[c.pick(2)]
	case n == 5:
		t.N += c.pick(3) - 1
	case n == 6:
		t.Args = append(t.Args, typ("Int"))
	case n == 7 && len(t.Args) > 0:
		t.Args = t.Args[1:]
	case n == 8:
		return nested([]int{200, api.MaxType - 1, api.MaxType}[c.pick(3)], variable(c.pick(40)))
	default:
		return []api.Type{{}, variable(c.pick(12)), variable(c.pick(12)), typ("Int"), typ("Bool"), typ("L v1"), typ("Int -> v1"), typ("v0 -> v0")}[c.pick(8)]
	}
	return t
}

// change changes a place.
func (c *chain) change(v reflect.Value) {
	switch {
	case v.Type() == reflect.TypeFor[api.Type]():
		v.Set(reflect.ValueOf(c.another(v.Interface().(api.Type))))
	case v.Kind() == reflect.Int:
		v.SetInt(v.Int() + []int64{1, -1, 7, 1 << 30}[c.pick(4)])
	case v.Kind() == reflect.Slice && v.Len() == 0:
		v.Set(reflect.Append(v, reflect.Zero(v.Type().Elem())))
	case v.Kind() == reflect.Slice:
		i := c.pick(v.Len())
		x := copied(v.Index(i))
		switch c.pick(4) {
		case 0:
			v.Set(reflect.AppendSlice(v.Slice(0, i), v.Slice(i+1, v.Len())))
		case 1:
			v.Set(reflect.Append(v, x))
		case 2:
			v.Index(i).Set(v.Index(0))
			v.Index(0).Set(x)
		case 3:
			v.Set(reflect.Append(v, reflect.Zero(v.Type().Elem())))
		}
	}
}

// all replaces a variable in all of a derivation; Vars keep it, lose it, or have the other one if it is replaced by one.
func (c *chain) all(v reflect.Value, n int, by api.Type, how int) {
	switch {
	case v.Type() == reflect.TypeFor[api.Type]():
		v.Set(reflect.ValueOf(unify.Subst(v.Interface().(api.Type), []int{n}, []api.Type{by})))
	case v.Type() == reflect.TypeFor[api.DGroup]():
		g := v.Addr().Interface().(*api.DGroup)
		if i := slices.Index(g.Vars, n); i >= 0 && how == 1 {
			g.Vars = slices.Delete(g.Vars, i, i+1)
		} else if i >= 0 && how == 2 && by.Kind == api.KVar {
			g.Vars[i] = by.N
		}
		c.all(v.FieldByName("Types"), n, by, how)
		c.all(v.FieldByName("Binds"), n, by, how)
	case v.Kind() == reflect.Slice:
		for i := range v.Len() {
			c.all(v.Index(i), n, by, how)
		}
	case v.Kind() == reflect.Struct:
		for i := range v.NumField() {
			c.all(v.Field(i), n, by, how)
		}
	}
}

// lessGeneral replaces a variable by a type; it tells nothing of what Inst there is then.
func (c *chain) lessGeneral(v reflect.Value, most int) {
	by := []api.Type{typ("Int"), typ("L Bool"), typ("Int -> Bool"), variable(c.pick(most)), variable(most + 3)}[c.pick(5)]
	c.all(v, c.pick(most), by, c.pick(3))
}

// more puts a variable into some Vars.
func (c *chain) more(v reflect.Value, most int) {
	var l []reflect.Value
	spots(v, &l)
	l = slices.DeleteFunc(l, func(v reflect.Value) bool { return v.Type() != reflect.TypeFor[api.DGroup]() })
	g := l[c.pick(len(l))].Addr().Interface().(*api.DGroup)
	if len(g.Vars) > 0 && c.pick(2) == 0 {
		i := c.pick(len(g.Vars))
		g.Vars = slices.Delete(g.Vars, i, i+1)
		return
	}
	g.Vars = append(g.Vars, c.pick(most+2))
}

// P13.1, P13.5

func TestManyDerivations(t *testing.T) {
	c := chain(1)
	count := map[api.Errno]int{}
	less := 0
	for _, src := range sources {
		p := program(t, src)
		found, _ := infer.Program(p)
		schemes, _ := infer.Schemes(p)
		same(t, src, ruled(p, found), api.OK)
		most := 40
		for i := range 800 {
			x := reflect.New(reflect.TypeFor[api.Typing]()).Elem()
			x.Set(copied(reflect.ValueOf(found)))
			for range 1 + c.pick(3) {
				switch i % 4 {
				case 0:
					c.lessGeneral(x, most)
				case 1:
					c.more(x, most)
				case 2:
					c.lessGeneral(x, most)
					c.more(x, most)
				default:
					var l []reflect.Value
					spots(x, &l)
					c.change(l[c.pick(len(l))])
				}
			}
			d := x.Interface().(api.Typing)
			want := ruled(p, d)
			if got := deriv.Check(p, d); got != want {
				t.Fatalf("%v, not %v, of\n%s%v", got, want, show.Program(p), d)
			}
			count[want]++
			if want != api.OK {
				continue
			}
			l, err := deriv.Schemes(p, d)
			same(t, src, err, api.OK)
			for k, s := range l {
				if !deriv.Instance(schemes[k], s.Type) {
					t.Fatal(src, s, schemes[k])
				}
				if text(unify.Rename(s.Type)) != text(schemes[k].Type) || len(s.Vars) < len(schemes[k].Vars) {
					less++
				}
			}
		}
	}
	if count[api.OK] < 4000 || count[api.ErrDeriv] < 4000 || less < 1000 {
		t.Error(count, less)
	}
}

// P13.2

func TestManyInstances(t *testing.T) {
	c := chain(2)
	var made func(depth int) api.Type
	made = func(depth int) api.Type {
		switch n := c.pick(6); {
		case n < 3 || depth == 0:
			return variable(c.pick(3))
		case n == 3:
			return typ("Int")
		case n == 4:
			return api.Type{Kind: api.KCon, Name: "L", Args: []api.Type{made(depth - 1)}}
		}
		return api.Type{Kind: api.KFun, Args: []api.Type{made(depth - 1), made(depth - 1)}}
	}
	count := map[bool]int{}
	for range 40000 {
		s := api.Scheme{Vars: []int{c.pick(3), c.pick(3)}[:c.pick(3)], Type: made(3)}
		is := made(3)
		if c.pick(2) == 0 {
			is = unify.Subst(s.Type, []int{0, 1, 2}, []api.Type{made(2), made(2), made(2)})
		}
		// The variables of the scheme are made others that the type has not; all others are constructors, on both sides.
		closed := func(t api.Type, but []int) api.Type {
			for v := range 3 {
				if !slices.Contains(but, v) {
					t = unify.Subst(t, []int{v}, []api.Type{{Kind: api.KCon, Name: fmt.Sprint("V", v)}})
				}
			}
			return t
		}
		want := unify.New().Unify(closed(s.Type, s.Vars), closed(is, nil)) == api.OK
		if got := deriv.Instance(s, is); got != want {
			t.Fatal(got, s, is)
		}
		count[want]++
	}
	if count[true] < 5000 || count[false] < 5000 {
		t.Error(count)
	}
}

// Sources are in scope: what is wrong with them later is not that.
func TestSources(t *testing.T) {
	for _, src := range sources {
		if f := scope.Check(program(t, src)); f.Err != api.OK {
			t.Error(src, f)
		}
	}
}
