package schema_test

import (
	"fmt"
	"math"
	"reflect"
	"slices"
	"testing"

	"changeling/api"
	"changeling/match"
	"changeling/num"
	"changeling/schema"
)

// same holds things against each other; lists without elements may be nil or empty.
func same(t *testing.T, what, got, want any) {
	t.Helper()
	if !reflect.DeepEqual(tidy(reflect.ValueOf(got)).Interface(), tidy(reflect.ValueOf(want)).Interface()) {
		t.Errorf("%v: %.700s, not %.700s", what, fmt.Sprintf("%+v", got), fmt.Sprintf("%+v", want))
	}
}

// tidy is a value in new memory, all of whose lists without elements are nil.
func tidy(v reflect.Value) reflect.Value {
	made := reflect.New(v.Type()).Elem()
	switch v.Kind() {
	case reflect.Slice:
		if v.Len() > 0 {
			made.Set(reflect.MakeSlice(v.Type(), v.Len(), v.Len()))
		}
		for i := range v.Len() {
			made.Index(i).Set(tidy(v.Index(i)))
		}
	case reflect.Struct:
		for i := range v.NumField() {
			made.Field(i).Set(tidy(v.Field(i)))
		}
	default:
		made.Set(v)
	}
	return made
}

// Core expressions, in short forms.

func v(name string) api.Core { return api.Core{Kind: api.CVar, Name: name} }

func glob(name string) api.Core { return api.Core{Kind: api.CGlob, Name: name} }

func integer(n int64) api.Core { return api.Core{Kind: api.CInt, N: n} }

func con(name string, tag int64, arity int) api.Core {
	return api.Core{Kind: api.CCon, Name: name, N: tag, Arity: arity}
}

func app(f api.Core, l ...api.Core) api.Core {
	for _, a := range l {
		f = api.Core{Kind: api.CApp, Args: []api.Core{f, a}}
	}
	return f
}

func lam(body api.Core, params ...string) api.Core {
	return api.Core{Kind: api.CLam, Params: params, Args: []api.Core{body}}
}

func bind(name string, body api.Core) api.CBind { return api.CBind{Name: name, Body: body} }

func let(in api.Core, l ...api.CBind) api.Core {
	return api.Core{Kind: api.CLet, Binds: l, Args: []api.Core{in}}
}

func choice(of api.Core, l ...api.CAlt) api.Core {
	return api.Core{Kind: api.CCase, Args: []api.Core{of}, Alts: l}
}

func ofCon(body api.Core, name string, tag int64, params ...string) api.CAlt {
	return api.CAlt{Kind: api.ACon, Name: name, N: tag, Params: params, Body: body}
}

func ofInt(n int64, body api.Core) api.CAlt { return api.CAlt{Kind: api.AInt, N: n, Body: body} }

func ofAny(body api.Core) api.CAlt { return api.CAlt{Kind: api.AAny, Body: body} }

func prim(op string, a, b api.Core) api.Core {
	return api.Core{Kind: api.CPrim, N: int64(num.Op(op)), Args: []api.Core{a, b}}
}

func fail() api.Core { return api.Core{Kind: api.CFail} }

func pick(arg api.Core, l ...api.Choice) api.Core {
	return api.Core{Kind: api.CPick, Args: []api.Core{arg}, Picks: l}
}

func on(selector int, body api.Core) api.Choice { return api.Choice{Select: selector, Body: body} }

func def(name string, body api.Core) api.Def { return api.Def{Name: name, Body: body} }

// full is an expression all of whose fields say something, of a Kind that is none.
func full() api.Core {
	return api.Core{
		Kind: 77, Name: "n", N: 5, Arity: 2, Params: []string{"a", "b"},
		Args:  []api.Core{integer(1), integer(2)},
		Alts:  []api.CAlt{ofCon(integer(3), "C", 1, "x", "y"), ofAny(integer(4))},
		Binds: []api.CBind{bind("p", integer(5)), bind("q", integer(6))},
		Picks: []api.Choice{on(7, integer(7)), on(8, integer(8))},
	}
}

// changed is the full expression with a change.
func changed(change func(*api.Core)) api.Core {
	c := full()
	change(&c)
	return c
}

// around are expressions that have another one in them, each in another place.
func around(c api.Core) []api.Core {
	one := integer(1)
	return []api.Core{
		app(c, one), app(one, c), lam(c, "#0"), prim("+", c, c), let(c, bind("#0", one)), let(one, bind("#0", one), bind("#1", c)),
		choice(c, ofAny(one)), choice(one, ofInt(1, c), ofAny(one)), choice(one, ofInt(1, one), ofAny(c)), choice(one, ofCon(c, "C", 1, "#0")),
		lam(let(one, bind("#0", choice(one, ofAny(app(one, one, lam(c, "#1")))))), "#0"),
		{Kind: 99, Binds: []api.CBind{bind("", one), bind("", c)}}, {Args: []api.Core{one, one, one, c}},
	}
}

// merged is what an expression and choices are merged to.
func merged(t *testing.T, c api.Core, l ...api.Choice) api.Core {
	t.Helper()
	m, err := schema.Merge(c, l)
	same(t, "error", err, api.OK)
	return m
}

func refused(t *testing.T, what any, c api.Core, l ...api.Choice) {
	t.Helper()
	m, err := schema.Merge(c, l)
	same(t, what, err, api.ErrArg)
	same(t, what, m, api.Core{})
}

// P22.1: Merge

func TestExample(t *testing.T) {
	same(t, "example", merged(t, integer(1), on(1, integer(2))), pick(integer(1), on(1, integer(2))))
}

// What has a CPick in it, wherever, is refused.
func TestCPicks(t *testing.T) {
	one := integer(1)
	picks := []api.Core{pick(one, on(1, fail())), pick(one), {Kind: api.CPick}, {Kind: api.CPick, Picks: []api.Choice{on(1, one)}}}
	for i, p := range picks {
		for _, within := range append(around(p), p) {
			refused(t, i, within)
			refused(t, i, within, on(1, within))
			refused(t, i, within, on(1, one))
			refused(t, i, one, on(1, within))
			refused(t, i, one, on(1, one), on(2, within))
			refused(t, i, one, on(1, within), on(2, one))
			refused(t, i, one, on(1, fail()), on(2, within), on(3, integer(2)))
		}
		// In Picks that are none of a CPick, too.
		inPicks := api.Core{Kind: api.CInt, N: 1, Picks: []api.Choice{on(1, one), on(2, p)}}
		refused(t, i, inPicks)
		refused(t, i, app(one, inPicks), on(1, one))
		refused(t, i, one, on(1, inPicks))
		refused(t, i, one, on(1, lam(inPicks, "#0")))
	}
	for i := range around(one) {
		same(t, i, merged(t, around(one)[i]), around(one)[i])
		same(t, i, merged(t, around(one)[i], on(2, around(fail())[i])), around(pick(one, on(2, fail())))[i])
	}
}

// No two choices may have one Select, whatever they are.
func TestSelects(t *testing.T) {
	one, two := integer(1), integer(2)
	for _, s := range []int{0, 1, -1, 5, math.MinInt, math.MaxInt} {
		o := s / 2
		if o == s {
			o = 9
		}
		for i, l := range [][]api.Choice{
			{on(s, one), on(s, one)}, {on(s, one), on(s, two)}, {on(s, two), on(s, one)}, {on(s, two), on(s, two)}, {on(s, two), on(s, fail())},
			{on(s, two), on(o, two), on(s, fail())}, {on(s, one), on(o, two), on(s, one)}, {on(s, two), on(o, one), on(s, one)},
			{on(o, two), on(s, two), on(s, fail())}, {on(s, two), on(s, fail()), on(o, one)}, {on(10, one), on(11, two), on(s, one), on(o, fail()), on(12, one), on(s, two)},
		} {
			refused(t, fmt.Sprint(s, i), one, l...)
			refused(t, fmt.Sprint(s, i), app(two, one), l...)
		}
		same(t, s, merged(t, one, on(s, two)), pick(one, on(s, two)))
		same(t, s, merged(t, one, on(s, one)), one)
		same(t, s, merged(t, one, on(s, two), on(o, fail())), pick(one, on(s, two), on(o, fail())))
	}
	least, greatest := math.MinInt, math.MaxInt
	all := []api.Choice{on(greatest, two), on(0, fail()), on(least, integer(3)), on(-1, one), on(1, integer(4)), on(least+1, integer(5)), on(greatest-1, integer(6))}
	same(t, "order", merged(t, one, all...), pick(one, slices.Concat(all[:3], all[4:])...))
}

// The heads in which expressions can differ: each alone makes them unlike.
func TestUnlike(t *testing.T) {
	for what, change := range map[string]func(*api.Core){
		"Kind":           func(c *api.Core) { c.Kind = 78 },
		"no Kind":        func(c *api.Core) { c.Kind = 0 },
		"Name":           func(c *api.Core) { c.Name = "m" },
		"no Name":        func(c *api.Core) { c.Name = "" },
		"N":              func(c *api.Core) { c.N = 6 },
		"N of 64 bits":   func(c *api.Core) { c.N = 5 + 1<<32 },
		"Arity":          func(c *api.Core) { c.Arity = 3 },
		"Arity below":    func(c *api.Core) { c.Arity = -2 },
		"Params":         func(c *api.Core) { c.Params[1] = "c" },
		"other Params":   func(c *api.Core) { c.Params = []string{"b", "a"} },
		"more Params":    func(c *api.Core) { c.Params = []string{"a", "b", ""} },
		"joined Params":  func(c *api.Core) { c.Params = []string{"a b"} },
		"no Params":      func(c *api.Core) { c.Params = nil },
		"fewer Args":     func(c *api.Core) { c.Args = c.Args[:1] },
		"more Args":      func(c *api.Core) { c.Args = append(c.Args, integer(3)) },
		"no Args":        func(c *api.Core) { c.Args = nil },
		"fewer Alts":     func(c *api.Core) { c.Alts = c.Alts[:1] },
		"more Alts":      func(c *api.Core) { c.Alts = append(c.Alts, c.Alts[1]) },
		"no Alts":        func(c *api.Core) { c.Alts = nil },
		"fewer Binds":    func(c *api.Core) { c.Binds = c.Binds[:1] },
		"more Binds":     func(c *api.Core) { c.Binds = append(c.Binds, bind("r", integer(7))) },
		"no Binds":       func(c *api.Core) { c.Binds = nil },
		"fewer Picks":    func(c *api.Core) { c.Picks = c.Picks[:1] },
		"more Picks":     func(c *api.Core) { c.Picks = append(c.Picks, on(9, integer(9))) },
		"no Picks":       func(c *api.Core) { c.Picks = nil },
		"Alt's Kind":     func(c *api.Core) { c.Alts[1].Kind = api.AInt },
		"Alt's Name":     func(c *api.Core) { c.Alts[0].Name = "D" },
		"Alt's N":        func(c *api.Core) { c.Alts[0].N = 2 },
		"Alt's Params":   func(c *api.Core) { c.Alts[0].Params = []string{"x", "z"} },
		"Alt's order":    func(c *api.Core) { c.Alts[0].Params = []string{"y", "x"} },
		"Alt's fewer":    func(c *api.Core) { c.Alts[0].Params = []string{"x"} },
		"Alt's more":     func(c *api.Core) { c.Alts[1].Params = []string{""} },
		"Alts' order":    func(c *api.Core) { slices.Reverse(c.Alts) },
		"Bind's Name":    func(c *api.Core) { c.Binds[1].Name = "r" },
		"Bind's no Name": func(c *api.Core) { c.Binds[0].Name = "" },
		"Binds' order":   func(c *api.Core) { slices.Reverse(c.Binds) },
	} {
		c, other := full(), changed(change)
		same(t, what, merged(t, c, on(3, other)), pick(c, on(3, other)))
		same(t, what, merged(t, other, on(3, c)), pick(other, on(3, c)))
		same(t, what, merged(t, other, on(3, other)), other)
		// What is alike within them is not looked at; what is alike with it is merged beside it.
		near := changed(func(c *api.Core) { c.Args[1], c.Binds[1].Body = fail(), fail() })
		both := changed(func(c *api.Core) {
			c.Args[1], c.Binds[1].Body = pick(integer(2), on(4, fail())), pick(integer(6), on(4, fail()))
		})
		same(t, what, merged(t, c, on(3, other), on(4, near), on(5, c)), pick(both, on(3, other)))
		same(t, what, merged(t, c, on(5, c), on(4, near), on(3, other)), pick(both, on(3, other)))
		same(t, what, merged(t, c, on(3, other), on(5, c), on(6, fail())), pick(c, on(3, other), on(6, fail())))
		for i := range around(c) {
			same(t, what, merged(t, around(c)[i], on(3, around(other)[i])), around(pick(c, on(3, other)))[i])
			same(t, what, merged(t, around(c)[i], on(3, around(other)[i]), on(4, around(near)[i])), around(pick(both, on(3, other)))[i])
		}
	}
}

// The parts in which alike expressions can differ: each is merged for itself.
func TestParts(t *testing.T) {
	x, y := v("#0"), v("#1")
	for i, part := range []func(*api.Core) *api.Core{
		func(c *api.Core) *api.Core { return &c.Args[0] },
		func(c *api.Core) *api.Core { return &c.Args[1] },
		func(c *api.Core) *api.Core { return &c.Alts[0].Body },
		func(c *api.Core) *api.Core { return &c.Alts[1].Body },
		func(c *api.Core) *api.Core { return &c.Binds[0].Body },
		func(c *api.Core) *api.Core { return &c.Binds[1].Body },
	} {
		with := func(other api.Core) api.Core { return changed(func(c *api.Core) { *part(c) = other }) }
		c := full()
		old := *part(&c)
		same(t, i, merged(t, c, on(1, with(fail()))), with(pick(old, on(1, fail()))))
		same(t, i, merged(t, c, on(1, with(fail())), on(2, with(x)), on(3, c)), with(pick(old, on(1, fail()), on(2, x))))
		same(t, i, merged(t, c, on(7, with(x)), on(2, with(old)), on(-5, with(app(x, x)))), with(pick(old, on(7, x), on(-5, app(x, x)))))
		same(t, i, merged(t, with(app(x, x)), on(1, with(app(x, old))), on(2, with(app(fail(), x))), on(3, with(old)), on(4, with(app(y, y)))),
			with(pick(app(pick(x, on(2, fail()), on(4, y)), pick(x, on(1, old), on(4, y))), on(3, old))))
	}
	// Picks of what is no CPick are looked at for how many they are alone: they stay those of the expression.
	other := changed(func(c *api.Core) { c.Picks = []api.Choice{on(1, fail()), on(2, x)} })
	same(t, "Picks", merged(t, full(), on(1, other)), full())
	same(t, "Picks", merged(t, other, on(1, full())), other)
	other.Args[0] = fail()
	same(t, "Picks", merged(t, full(), on(1, other)), changed(func(c *api.Core) { c.Args[0] = pick(integer(1), on(1, fail())) }))
}

func TestMerge(t *testing.T) {
	one, two, three := integer(1), integer(2), integer(3)
	x, y := v("#0"), v("#1")
	for i, c := range []struct {
		c    api.Core
		l    []api.Choice
		want api.Core
	}{
		// Without choices, and without some that count.
		{one, nil, one},
		{one, []api.Choice{}, one},
		{api.Core{}, nil, api.Core{}},
		{api.Core{}, []api.Choice{{}}, api.Core{}},
		{full(), nil, full()},
		{app(one, two), []api.Choice{on(1, app(one, two))}, app(one, two)},
		{app(one, two), []api.Choice{on(1, app(one, two)), on(2, app(one, two)), on(0, app(one, two))}, app(one, two)},
		// The expression first, last, in the middle.
		{one, []api.Choice{on(1, one), on(2, two), on(3, three)}, pick(one, on(2, two), on(3, three))},
		{one, []api.Choice{on(1, two), on(2, one), on(3, three)}, pick(one, on(1, two), on(3, three))},
		{one, []api.Choice{on(1, two), on(2, three), on(3, one)}, pick(one, on(1, two), on(2, three))},
		{one, []api.Choice{on(1, one), on(2, two), on(3, one)}, pick(one, on(2, two))},
		// The order is that of the choices, not that of their Selects.
		{one, []api.Choice{on(9, two), on(-3, three), on(4, fail())}, pick(one, on(9, two), on(-3, three), on(4, fail()))},
		// Two choices that are alike stay two.
		{one, []api.Choice{on(1, two), on(2, two)}, pick(one, on(1, two), on(2, two))},
		{app(x, y), []api.Choice{on(1, app(y, y)), on(2, app(y, x))}, app(pick(x, on(1, y), on(2, y)), pick(y, on(2, x)))},
		// One that is alike while another is not, in either order.
		{app(one, two), []api.Choice{on(1, app(three, two)), on(2, three)}, pick(app(pick(one, on(1, three)), two), on(2, three))},
		{app(one, two), []api.Choice{on(2, three), on(1, app(three, two))}, pick(app(pick(one, on(1, three)), two), on(2, three))},
		{app(one, two), []api.Choice{on(1, app(three, two)), on(2, three), on(3, app(three, three)), on(4, fail()), on(5, app(one, two))},
			pick(app(pick(one, on(1, three), on(3, three)), pick(two, on(3, three))), on(2, three), on(4, fail()))},
		// The same within several ones.
		{app(x, app(x, one)), []api.Choice{on(1, app(x, app(x, two))), on(2, app(x, one)), on(3, app(x, app(y, one))), on(4, y)},
			pick(app(x, pick(app(pick(x, on(3, y)), pick(one, on(1, two))), on(2, one))), on(4, y))},
		// Alike within what is not; not alike within what is.
		{app(one, two), []api.Choice{on(1, prim("+", one, two))}, pick(app(one, two), on(1, prim("+", one, two)))},
		{prim("+", one, two), []api.Choice{on(1, prim("-", one, two))}, pick(prim("+", one, two), on(1, prim("-", one, two)))},
		{prim("+", one, two), []api.Choice{on(1, prim("-", one, three)), on(2, prim("+", fail(), x))}, pick(prim("+", pick(one, on(2, fail())), pick(two, on(2, x))), on(1, prim("-", one, three)))},
		{lam(x, "#0"), []api.Choice{on(1, lam(x, "#0", "#1"))}, pick(lam(x, "#0"), on(1, lam(x, "#0", "#1")))},
		{lam(x, "#0", "#1"), []api.Choice{on(1, lam(y, "#0", "#1"))}, lam(pick(x, on(1, y)), "#0", "#1")},
		{let(x, bind("#0", one), bind("#1", x)), []api.Choice{on(1, let(y, bind("#0", two), bind("#1", y)))}, let(pick(x, on(1, y)), bind("#0", pick(one, on(1, two))), bind("#1", pick(x, on(1, y))))},
		{let(x, bind("#0", one)), []api.Choice{on(1, let(x, bind("#1", one)))}, pick(let(x, bind("#0", one)), on(1, let(x, bind("#1", one))))},
		{choice(x, ofInt(0, one), ofAny(fail())), []api.Choice{on(1, choice(x, ofInt(0, two), ofAny(fail()))), on(2, choice(x, ofInt(1, one), ofAny(fail()))), on(3, choice(y, ofInt(0, one), ofAny(one)))},
			pick(choice(pick(x, on(3, y)), ofInt(0, pick(one, on(1, two))), ofAny(pick(fail(), on(3, one)))), on(2, choice(x, ofInt(1, one), ofAny(fail()))))},
		{choice(x, ofCon(y, "C", 1, "#1", "#2"), ofAny(one)), []api.Choice{on(1, choice(x, ofCon(y, "C", 1, "#2", "#1"), ofAny(one))), on(2, choice(x, ofCon(v("#2"), "C", 1, "#1", "#2"), ofAny(one)))},
			pick(choice(x, ofCon(pick(y, on(2, v("#2"))), "C", 1, "#1", "#2"), ofAny(one)), on(1, choice(x, ofCon(y, "C", 1, "#2", "#1"), ofAny(one))))},
		{con("A", 0, 1), []api.Choice{on(1, con("B", 1, 1)), on(2, con("A", 0, 2)), on(3, con("A", 1, 1)), on(4, con("A", 0, 1))}, pick(con("A", 0, 1), on(1, con("B", 1, 1)), on(2, con("A", 0, 2)), on(3, con("A", 1, 1)))},
		{x, []api.Choice{on(1, glob("#0"))}, pick(x, on(1, glob("#0")))},
		{integer(math.MinInt64), []api.Choice{on(1, integer(math.MaxInt64)), on(2, integer(0))}, pick(integer(math.MinInt64), on(1, integer(math.MaxInt64)), on(2, integer(0)))},
		// Lists that are nil, and such that are empty.
		{integer(1), []api.Choice{on(1, api.Core{Kind: api.CInt, N: 1, Params: []string{}, Args: []api.Core{}, Alts: []api.CAlt{}, Binds: []api.CBind{}, Picks: []api.Choice{}})}, integer(1)},
		{api.Core{Kind: api.CInt, N: 1, Params: []string{}, Args: []api.Core{}, Alts: []api.CAlt{}, Binds: []api.CBind{}, Picks: []api.Choice{}}, []api.Choice{on(1, one)}, one},
		{choice(one, ofAny(one)), []api.Choice{on(1, choice(one, api.CAlt{Kind: api.AAny, Params: []string{}, Body: one}))}, choice(one, ofAny(one))},
	} {
		same(t, i, merged(t, c.c, c.l...), c.want)
		withinBound(t, c.c, c.l, c.want)
		for k := range around(c.c) {
			var l []api.Choice
			for _, x := range c.l {
				l = append(l, on(x.Select, around(x.Body)[k]))
			}
			same(t, fmt.Sprint(i, " ", k), merged(t, around(c.c)[k], l...), around(c.want)[k])
		}
	}
}

// P22.7

func withinBound(t *testing.T, c api.Core, l []api.Choice, m api.Core) int {
	t.Helper()
	most := match.Size(c)
	for _, x := range l {
		most += 2 * match.Size(x.Body)
	}
	if match.Size(m) > most {
		t.Errorf("%d parts, not at most %d", match.Size(m), most)
	}
	return most - match.Size(m)
}

// As many parts as are promised: a leaf in the place of whatever is no leaf like it.
func TestAsManyParts(t *testing.T) {
	for _, c := range append(around(integer(1)), integer(1), full()) {
		m := merged(t, c, on(1, fail()))
		same(t, "parts", withinBound(t, c, []api.Choice{on(1, fail())}, m), 0)
		same(t, "parts", match.Size(m), match.Size(c)+2)
	}
	// Each further choice needs no CPick of its own there.
	l := []api.Choice{on(1, fail()), on(2, v("x"))}
	same(t, "parts", withinBound(t, integer(1), l, merged(t, integer(1), l...)), 1)
}

// P22.1: Pick

func TestPick(t *testing.T) {
	one, two, three := integer(1), integer(2), integer(3)
	none := api.Core{Kind: api.CPick}
	noArg := api.Core{Kind: api.CPick, Picks: []api.Choice{on(1, two), on(4, three)}}
	several := api.Core{Kind: api.CPick, Args: []api.Core{one, two, three}, Picks: []api.Choice{on(1, fail())}}
	twice := pick(one, on(1, two), on(2, v("x")), on(1, three), on(2, fail()))
	for i, c := range []struct {
		c        api.Core
		selector int
		want     api.Core
	}{
		{one, 0, one}, {one, 1, one}, {api.Core{}, 1, api.Core{}},
		{pick(one, on(1, two)), 1, two}, {pick(one, on(1, two)), 0, one}, {pick(one, on(1, two)), -1, one}, {pick(one, on(1, two)), 2, one},
		{pick(one, on(0, two)), 0, two}, {pick(one, on(-7, two)), -7, two}, {pick(one, on(-7, two)), 7, one},
		{pick(one, on(math.MinInt, two), on(math.MaxInt, three)), math.MinInt, two}, {pick(one, on(math.MinInt, two), on(math.MaxInt, three)), math.MaxInt, three}, {pick(one, on(math.MinInt, two), on(math.MaxInt, three)), 0, one},
		// The first of several.
		{twice, 1, two}, {twice, 2, v("x")}, {twice, 3, one},
		// No Args, and several.
		{none, 0, api.Core{}}, {noArg, 0, api.Core{}}, {noArg, 1, two}, {noArg, 4, three}, {several, 0, one}, {several, 1, fail()},
		{app(none, one), 0, app(api.Core{}, one)}, {pick(none, on(1, one)), 0, api.Core{}}, {pick(none, on(1, one)), 1, one},
		// CPicks within CPicks' Args and Picks: from the outside in, by one selector.
		{pick(pick(one, on(1, two)), on(2, three)), 1, two}, {pick(pick(one, on(1, two)), on(2, three)), 2, three}, {pick(pick(one, on(1, two)), on(2, three)), 0, one},
		{pick(pick(one, on(1, two)), on(1, three)), 1, three},
		{pick(one, on(1, pick(two, on(1, three)))), 1, three}, {pick(one, on(1, pick(two, on(2, three)))), 1, two}, {pick(one, on(1, pick(two, on(2, three)))), 2, one},
		{pick(one, on(1, app(pick(two, on(1, three)), pick(two, on(2, fail()))))), 1, app(three, two)},
		{pick(one, on(1, pick(pick(two, on(1, pick(none, on(1, fail()))))))), 1, fail()},
		{app(pick(one, on(1, two)), pick(three, on(2, fail()), on(1, v("x")))), 1, app(two, v("x"))}, {app(pick(one, on(1, two)), pick(three, on(2, fail()), on(1, v("x")))), 2, app(one, fail())},
		// In Alts and Binds, and in the Picks of what is no CPick: that has none then.
		{choice(pick(one, on(1, two)), ofInt(1, pick(two, on(1, three))), ofCon(pick(one, on(1, fail())), "C", 2, "a", "b"), ofAny(pick(one, on(3, two)))), 1, choice(two, ofInt(1, three), ofCon(fail(), "C", 2, "a", "b"), ofAny(one))},
		{let(pick(one, on(1, two)), bind("a", pick(two, on(1, three))), bind("b", one)), 1, let(two, bind("a", three), bind("b", one))},
		{full(), 7, changed(func(c *api.Core) { c.Picks = nil })}, {full(), 0, changed(func(c *api.Core) { c.Picks = nil })},
		{pick(full(), on(1, app(one, full()))), 0, changed(func(c *api.Core) { c.Picks = nil })}, {pick(full(), on(1, app(one, full()))), 1, app(one, changed(func(c *api.Core) { c.Picks = nil }))},
		{api.Core{Kind: api.CInt, N: 3, Picks: []api.Choice{on(1, pick(one, on(1, two)))}}, 1, three},
		{changed(func(c *api.Core) { c.Args[1], c.Kind = pick(one, on(8, two)), api.CPick }), 8, integer(8)},
		{changed(func(c *api.Core) { c.Args[1], c.Alts[0].Body = pick(one, on(8, three)), pick(one, on(8, full())) }), 8, changed(func(c *api.Core) {
			c.Args[1], c.Alts[0].Body, c.Picks = three, changed(func(c *api.Core) { c.Picks = nil }), nil
		})},
	} {
		same(t, i, schema.Pick(c.c, c.selector), c.want)
		for k := range around(c.c) {
			same(t, fmt.Sprint(i, " ", k), schema.Pick(around(c.c)[k], c.selector), around(c.want)[k])
		}
		// P22.3
		same(t, i, schema.Choose([]api.Def{def("f", c.c), {}, def("", one), def("f", app(c.c, c.c))}, c.selector), []api.Def{def("f", c.want), {}, def("", one), def("f", app(c.want, c.want))})
	}
}

// P22.3

func TestChooseNone(t *testing.T) {
	for _, l := range [][]api.Def{nil, {}} {
		same(t, "none", len(schema.Choose(l, 1)), 0)
		same(t, "none", schema.Points(l), 0)
	}
}

func TestPoints(t *testing.T) {
	one := integer(1)
	for i, c := range []struct {
		c    api.Core
		want int
	}{
		{one, 0}, {api.Core{}, 0}, {full(), 0}, {lam(choice(one, ofAny(let(one, bind("a", one)))), "a"), 0},
		{api.Core{Kind: api.CPick}, 1}, {pick(one), 1}, {pick(one, on(1, one), on(2, one)), 1},
		{pick(pick(one)), 2}, {pick(one, on(1, pick(one))), 2}, {pick(pick(one), on(1, pick(one)), on(2, one), on(1, app(pick(one), pick(pick(one))))), 6},
		{app(pick(one), pick(one)), 2}, {let(pick(one), bind("a", pick(one)), bind("b", pick(pick(one)))), 4},
		{choice(pick(one), ofInt(1, pick(one)), ofAny(app(one, pick(one)))), 3},
		{api.Core{Kind: api.CPick, Args: []api.Core{one, pick(one), pick(one)}, Alts: []api.CAlt{ofAny(pick(one))}, Binds: []api.CBind{bind("a", pick(one))}}, 5},
		{api.Core{Kind: api.CInt, Picks: []api.Choice{on(1, one), on(2, pick(one))}}, 1},
	} {
		same(t, i, schema.Points([]api.Def{def("f", c.c)}), c.want)
		same(t, i, schema.Points([]api.Def{def("f", one), def("", c.c), {}, def("f", app(c.c, c.c)), def("g", pick(one))}), 3*c.want+1)
	}
}
