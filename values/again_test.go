package values_test

import (
	"fmt"
	"slices"
	"testing"

	"changeling/api"
	"changeling/decl"
	"changeling/show"
	"changeling/term"
	"changeling/values"
)

// The chapter's words once more: of data types as they are declared, with Bool, all values are put together, however many they are.

type declared []api.Data

func (l declared) data(name string) (api.Data, bool) {
	i := slices.IndexFunc(l, func(d api.Data) bool { return d.Name == name })
	if i < 0 {
		return api.Data{}, false
	}
	return l[i], true
}

func parts(ty api.Type) int {
	all := 1
	for _, a := range ty.Args {
		all += parts(a)
	}
	return all
}

// with is a type with others in the params' places.
func with(ty api.Type, params []string, args []api.Type) api.Type {
	if ty.Kind == api.KVar {
		return args[slices.Index(params, ty.Name)]
	}
	r := api.Type{Kind: ty.Kind, Name: ty.Name}
	for _, a := range ty.Args {
		r.Args = append(r.Args, with(a, params, args))
	}
	return r
}

// fields are the types of a constructor's fields, if none is too large.
func fields(d api.Data, c api.Constr, args []api.Type) ([]api.Type, bool) {
	var l []api.Type
	for _, f := range c.Fields {
		l = append(l, with(f, d.Params, args))
	}
	return l, !slices.ContainsFunc(l, func(ty api.Type) bool { return parts(ty) > api.MaxType })
}

// isInt tells whether a type is a variable or Int.
func isInt(ty api.Type) bool {
	return ty.Kind == api.KVar || ty.Name == "Int"
}

// maker makes values, as long as it is not asked too often.
type maker struct {
	declared
	asked, most int
	sums        map[string]int
}

func (m *maker) tired() bool { return m.asked > m.most }

func (m *maker) values(ty api.Type, size int) []api.Term {
	m.asked++
	switch {
	case size < 1 || ty.Kind == api.KFun || m.tired():
		return nil
	case isInt(ty) && size == 1:
		return []api.Term{{}}
	case isInt(ty):
		return []api.Term{{N: int64(size - 1)}, {N: int64(1 - size)}}
	}
	d, _ := m.data(ty.Name)
	var l []api.Term
	for _, c := range d.Cons {
		if types, ok := fields(d, c, ty.Args); ok {
			for _, row := range m.rows(types, size-1) {
				l = append(l, api.Term{Con: c.Name, Args: row})
			}
		}
	}
	return l
}

func (m *maker) rows(types []api.Type, size int) [][]api.Term {
	if len(types) == 0 && size == 0 {
		return [][]api.Term{{}}
	}
	var l [][]api.Term
	for first := 1; len(types) > 0 && first <= size; first++ {
		for _, x := range m.values(types[0], first) {
			for _, row := range m.rows(types[1:], size-first) {
				l = append(l, append([]api.Term{x}, row...))
			}
		}
	}
	return l
}

// count is how many values or rows there are, at most so many; what is reckoned once is kept.
func (m *maker) count(types []api.Type, size int) int {
	if len(types) == 0 {
		return max(0, 1-size)
	}
	key := fmt.Sprint(types, size)
	if n, ok := m.sums[key]; ok || m.tired() {
		return n
	}
	m.asked++
	n := 0
	for first := 1; first <= size; first++ {
		if others := m.count(types[1:], size-first); others > 0 {
			n += m.countOne(types[0], first) * others
		}
	}
	m.sums[key] = min(n, api.MaxValues+1)
	return m.sums[key]
}

func (m *maker) countOne(ty api.Type, size int) int {
	switch {
	case ty.Kind == api.KFun:
		return 0
	case isInt(ty):
		return min(size, 2)
	}
	d, _ := m.data(ty.Name)
	n := 0
	for _, c := range d.Cons {
		if types, ok := fields(d, c, ty.Args); ok {
			n = min(n+m.count(types, size-1), api.MaxValues+1)
		}
	}
	return n
}

// chain makes choices, always the same.
type chain uint32

func (c *chain) pick(n int) int {
	*c = *c*1664525 + 1013904223
	return int(*c>>16) % n
}

func some[T any](c *chain, l ...T) T { return l[c.pick(len(l))] }

// typ is a type of data types that are known, and of params or other variables.
func (c *chain) typ(l declared, vars []string, depth int) api.Type {
	switch k := c.pick(20); {
	case k < 7 && len(vars) > 0:
		return api.Type{Kind: api.KVar, Name: some(c, vars...)}
	case k == 7:
		return api.Type{Kind: api.KFun, Args: []api.Type{c.typ(l, vars, 0), c.typ(l, vars, 0)}}
	case k < 11 || depth == 0:
		return con(some(c, "Int", "Bool"))
	}
	d := some(c, l...)
	ty := con(d.Name)
	for range d.Params {
		ty.Args = append(ty.Args, c.typ(l, vars, depth-1))
	}
	return ty
}

// datas are made data types.
func (c *chain) datas() declared {
	l := declared{{Name: "Bool", Cons: []api.Constr{{Name: "False"}, {Name: "True"}}}}
	for i := range 1 + c.pick(3) {
		l = append(l, api.Data{Name: fmt.Sprint("T", i), Params: []string{"a", "b"}[:c.pick(3)]})
	}
	next := 0
	for i := range l[1:] {
		for range 1 + c.pick(4) {
			k := api.Constr{Name: string(rune('A' + next))}
			next++
			for range c.pick(4) {
				k.Fields = append(k.Fields, c.typ(l, l[i+1].Params, 2))
			}
			l[i+1].Cons = append(l[i+1].Cons, k)
		}
	}
	return l
}

// asked are made types, none of them a KFun, as they are declared and as they are asked of a table.
func (c *chain) asked(l declared) ([]api.Type, []api.Type) {
	var named, numbered []api.Type
	for range some(c, 0, 1, 1, 1, 2, 3) {
		ty := c.typ(l, []string{"x"}, 3)
		if ty.Kind != api.KFun {
			named, numbered = append(named, ty), append(numbered, ofNumbers(ty))
		}
	}
	return named, numbered
}

func written(l declared, types []api.Type, bound int) string {
	s := show.Program(api.Program{Datas: l[1:]})
	for _, ty := range types {
		s += show.Type(ty) + "; "
	}
	return s + fmt.Sprint(bound)
}

// sameRows holds rows against each other.
func sameRows(t *testing.T, what string, got, want [][]api.Term) {
	t.Helper()
	if !slices.EqualFunc(got, want, func(a, b []api.Term) bool { return slices.EqualFunc(a, b, term.Same) }) {
		t.Fatalf("%s:\n%.500s\nnot\n%.500s", what, lines(got), lines(want))
	}
}

// P20.1, P20.2

func TestManyRows(t *testing.T) {
	t.Parallel()
	var c chain = 1
	asked := 0
	for range 3000 {
		l := c.datas()
		d, fault := decl.New(l[1:])
		same(t, l, fault, api.Fault{})
		named, numbered := c.asked(l)
		bound := c.pick(13)
		what := written(l, named, bound)
		m := &maker{declared: l, most: 50000}
		var want [][]api.Term
		for size := range bound + 1 {
			part := m.rows(named, size)
			want = append(want, part...)
			if m.tired() {
				break
			}
			many, err := values.Count(d, numbered, size)
			same(t, what, err, api.OK)
			same(t, what, many, min(len(part), api.MaxValues+1))
			if len(named) == 1 && len(part) <= api.MaxValues {
				of(t, d, numbered[0], size, part)
			}
		}
		if m.tired() {
			continue
		}
		asked++
		rows, err := values.All(d, numbered, bound)
		if len(want) > api.MaxValues {
			same(t, what, err, api.ErrLong)
			want = nil
		} else {
			same(t, what, err, api.OK)
		}
		sameRows(t, what, rows, want)
		if t.Failed() {
			t.FailNow()
		}
	}
	if asked < 2500 {
		t.Error(asked)
	}
}

func TestManyCounts(t *testing.T) {
	t.Parallel()
	var c chain = 2
	kinds := map[string]int{}
	for range 1200 {
		l := c.datas()
		d, _ := decl.New(l[1:])
		named, numbered := c.asked(l)
		size := c.pick(65)
		m := &maker{declared: l, most: 5000, sums: map[string]int{}}
		want, all := 0, 0
		for n := range size + 1 {
			want = m.count(named, n)
			all += want
		}
		if m.tired() {
			kinds["not known"]++
			continue
		}
		what := written(l, named, size)
		many, err := values.Count(d, numbered, size)
		same(t, what, err, api.OK)
		same(t, what, many, want)
		rows, err := values.All(d, numbered, size)
		if all > api.MaxValues {
			kinds["too many"]++
			same(t, what, err, api.ErrLong)
			same(t, what, len(rows), 0)
		} else {
			kinds["some"] += min(all, 1)
			kinds["none"] += max(0, 1-all)
			same(t, what, err, api.OK)
			same(t, what, len(rows), all)
		}
		if t.Failed() {
			t.FailNow()
		}
	}
	if kinds["none"] < 30 || kinds["too many"] < 100 || kinds["some"] < 300 {
		t.Error(kinds)
	}
}

// terms are all terms of a table's constructors and of some integers, of a size.
func terms(d *decl.Table, size int) []api.Term {
	if size < 1 {
		return nil
	}
	l := []api.Term{{N: int64(size - 1)}}
	if size > 1 {
		l = append(l, api.Term{N: int64(1 - size)})
	}
	for _, c := range d.All() {
		for _, row := range termRows(d, len(c.Fields), size-1) {
			l = append(l, api.Term{Con: c.Name, Args: row})
		}
	}
	return l
}

func termRows(d *decl.Table, n, size int) [][]api.Term {
	if n == 0 && size == 0 {
		return [][]api.Term{nil}
	}
	var l [][]api.Term
	for first := 1; n > 0 && first <= size-n+1; first++ {
		for _, row := range termRows(d, n-1, size-first) {
			for _, x := range terms(d, first) {
				l = append(l, append([]api.Term{x}, row...))
			}
		}
	}
	return l
}

// P20.3, P20.4: the values of a type are all the terms that fit it, each once.
func TestWhatFits(t *testing.T) {
	t.Parallel()
	var c chain = 3
	all := 0
	for range 800 {
		l := c.datas()
		d, _ := decl.New(l[1:])
		bound := 1 + c.pick(5)
		byTerm := map[string]api.Term{}
		for size := range bound + 1 {
			for _, x := range terms(d, size) {
				byTerm[term.Text(x)] = x
			}
		}
		for range 6 {
			ty := c.typ(l, []string{"x"}, 3)
			if ty.Kind == api.KFun {
				continue
			}
			asked := ofNumbers(ty)
			rows, err := values.All(d, []api.Type{asked}, bound)
			if err == api.ErrLong {
				continue
			}
			seen := map[string]int{}
			for _, row := range rows {
				seen[line(row)]++
			}
			for text, x := range byTerm {
				want := 0
				if term.Fits(d, asked, x) {
					want = 1
				}
				all += want
				if seen[text] != want {
					t.Fatalf("%s: %s, %d times", written(l, []api.Type{ty}, bound), text, seen[text])
				}
				delete(seen, text)
			}
			same(t, written(l, []api.Type{ty}, bound), len(seen), 0)
		}
	}
	if all < 3000 {
		t.Error(all)
	}
}

// P20.3, P20.4 of rows: all of one type's values beside all of the other's, no greater together than the bound.
func TestRowsOfAll(t *testing.T) {
	d := table(t, datas)
	for _, text := range []string{"L Int; Bool", "M Bool; L Bool; Int", "Q Int Bool; S", "Bool; W Int; K Int"} {
		l := types(t, text)
		const bound = 9
		rows, err := values.All(d, l, bound)
		same(t, text, err, api.OK)
		seen := map[string]int{}
		for i, row := range rows {
			seen[line(row)]++
			same(t, line(row), len(row), len(l))
			same(t, line(row), sizeOf(row) <= bound, true)
			same(t, line(row), i == 0 || sizeOf(rows[i-1]) <= sizeOf(row), true)
			for j, x := range row {
				same(t, line(row), term.Fits(d, l[j], x), true)
			}
		}
		beside := [][]api.Term{nil}
		for _, ty := range l {
			one, err := values.All(d, []api.Type{ty}, bound)
			same(t, text, err, api.OK)
			var more [][]api.Term
			for _, row := range beside {
				for _, x := range one {
					if longer := slices.Concat(row, x); sizeOf(longer) <= bound {
						more = append(more, longer)
					}
				}
			}
			beside = more
		}
		same(t, text, len(beside), len(rows))
		for _, row := range beside {
			same(t, line(row), seen[line(row)], 1)
		}
	}
}
