package lift_test

import (
	"fmt"
	"math"
	"reflect"
	"slices"
	"strings"
	"testing"

	"changeling/api"
	"changeling/lift"
	"changeling/num"
)

func same(t *testing.T, what, got, want any) {
	t.Helper()
	if !reflect.DeepEqual(got, want) {
		t.Errorf("%v: %v, not %v", what, got, want)
	}
}

// Core expressions, in short forms.

func v(name string) api.Core { return api.Core{Kind: api.CVar, Name: name} }

func glob(name string) api.Core { return api.Core{Kind: api.CGlob, Name: name} }

func integer(n int64) api.Core { return api.Core{Kind: api.CInt, N: n} }

func con(name string, tag int64, arity int) api.Core {
	return api.Core{Kind: api.CCon, Name: name, N: tag, Arity: arity}
}

func app(f api.Core, l ...api.Core) api.Core {
	for _, a := range l {
		f = api.Core{Kind: api.CApp, Args: []api.Core{f, a}}
	}
	return f
}

func lam(body api.Core, params ...string) api.Core {
	return api.Core{Kind: api.CLam, Params: params, Args: []api.Core{body}}
}

func bind(name string, body api.Core) api.CBind { return api.CBind{Name: name, Body: body} }

func let(in api.Core, l ...api.CBind) api.Core {
	return api.Core{Kind: api.CLet, Binds: l, Args: []api.Core{in}}
}

func choice(of api.Core, l ...api.CAlt) api.Core {
	return api.Core{Kind: api.CCase, Args: []api.Core{of}, Alts: l}
}

func ofCon(body api.Core, name string, tag int64, params ...string) api.CAlt {
	return api.CAlt{Kind: api.ACon, Name: name, N: tag, Params: params, Body: body}
}

func ofInt(n int64, body api.Core) api.CAlt { return api.CAlt{Kind: api.AInt, N: n, Body: body} }

func ofAny(body api.Core) api.CAlt { return api.CAlt{Kind: api.AAny, Body: body} }

func prim(op string, a, b api.Core) api.Core {
	return api.Core{Kind: api.CPrim, N: int64(num.Op(op)), Args: []api.Core{a, b}}
}

func fail() api.Core { return api.Core{Kind: api.CFail} }

func pick(arg api.Core, l ...api.Choice) api.Core {
	return api.Core{Kind: api.CPick, Args: []api.Core{arg}, Picks: l}
}

func on(selector int, body api.Core) api.Choice { return api.Choice{Select: selector, Body: body} }

func def(name string, body api.Core) api.Def { return api.Def{Name: name, Body: body} }

func super(name string, body api.Core, params ...string) api.Super {
	return api.Super{Name: name, Params: params, Body: body}
}

// text is a core expression in a short form.
func text(c api.Core) string {
	var args, more []string
	for _, a := range c.Args {
		args = append(args, text(a))
	}
	for _, a := range c.Alts {
		more = append(more, altText(a)+" -> "+text(a.Body))
	}
	for _, b := range c.Binds {
		more = append(more, b.Name+" = "+text(b.Body))
	}
	for _, p := range c.Picks {
		more = append(more, fmt.Sprint(p.Select, ": ")+text(p.Body))
	}
	first, others := strings.Join(args, " "), "{"+strings.Join(more, "; ")+"}"
	switch c.Kind {
	case api.CVar, api.CGlob:
		return c.Name
	case api.CInt:
		return fmt.Sprint(c.N)
	case api.CCon:
		return fmt.Sprintf("%s/%d/%d", c.Name, c.N, c.Arity)
	case api.CApp:
		return "(" + first + ")"
	case api.CPrim:
		return "(" + num.Name(int(c.N)) + ": " + first + ")"
	case api.CLam:
		return "(\\" + strings.Join(c.Params, " ") + " -> " + first + ")"
	case api.CLet:
		return "let " + others + " in " + first
	case api.CCase:
		return "case " + first + " " + others
	case api.CPick:
		return "pick " + first + " " + others
	case api.CFail:
		return "fail"
	}
	return fmt.Sprint("?", c.Kind)
}

func altText(a api.CAlt) string {
	switch a.Kind {
	case api.ACon:
		return strings.Join(append([]string{fmt.Sprintf("%s/%d", a.Name, a.N)}, a.Params...), " ")
	case api.AInt:
		return fmt.Sprint(a.N)
	case api.AAny:
		return "_"
	}
	return fmt.Sprint("?", a.Kind)
}

func superText(s api.Super) string {
	return strings.Join(append([]string{s.Name}, s.Params...), " ") + " = " + text(s.Body)
}

func texts(l []api.Super) string {
	var all []string
	for _, s := range l {
		all = append(all, superText(s))
	}
	return strings.Join(all, "\n")
}

// P15.1: what may be

func TestNames(t *testing.T) {
	for name, want := range map[string]bool{
		"f": true, "F": true, "!": true, "==>": true, "f'": true, " ": true, "a b": true, "\xff": true, "0": true,
		"": false, "+": false, "-": false, "*": false, "/": false, "%": false, "==": false, "/=": false, "<": false, "<=": false, ">": false, ">=": false,
		"f#0": false, "f#1": false, "f#12": false, "#0": false, "#-1": false, "f#-7": false, "f##3": false, "f#x#3": false, "f#1#2": false, "+#1": false,
		"f#9223372036854775807": false, "f#-9223372036854775808": false,
		"#": true, "f#": true, "f#x": true, "f#1x": true, "f#01": true, "f#-0": true, "f#+1": true, "f# 1": true, "f#1#": true, "f#1#x": true, "f1": true, "f#1 ": true,
		"f#9223372036854775808": true, "f#-9223372036854775809": true, "f#1.": true, "f#-": true, "f#1_0": true, "f#٣": true,
	} {
		l := []api.Def{def(name, integer(1))}
		same(t, name, lift.Right(l), want)
		supers, err := lift.Lift(l)
		if want {
			same(t, name, supers, []api.Super{super(name, integer(1))})
			same(t, name, err, api.OK)
		} else {
			same(t, name, len(supers), 0)
			same(t, name, err, api.ErrArg)
		}
		// Supercombinators may have the names that are made, but no others that definitions may not have.
		same(t, name, lift.Flat([]api.Super{super(name, integer(1))}), want || strings.Contains(name, "#"))
	}
	one := integer(1)
	for i, c := range []struct {
		l    []api.Def
		want bool
	}{
		{nil, true},
		{[]api.Def{}, true},
		{[]api.Def{def("f", one), def("g", one)}, true},
		{[]api.Def{def("f", one), def("f", one)}, false},
		{[]api.Def{def("f", one), def("g", one), def("h", one), def("f", integer(2))}, false},
		{[]api.Def{def("f", glob("f")), def("g", glob("f"))}, true},
		{[]api.Def{def("f", glob("g")), def("g", glob("f"))}, true},
		{[]api.Def{def("f", glob("g"))}, false},
		{[]api.Def{def("f", one), {}}, false},
		{[]api.Def{{}}, false},
		{[]api.Def{{Name: "f"}}, false},
	} {
		same(t, i, lift.Right(c.l), c.want)
		l, err := lift.Lift(c.l)
		same(t, i, err == api.OK, c.want)
		same(t, i, err == api.ErrArg, !c.want)
		if !c.want {
			same(t, i, len(l), 0)
		}
		var supers []api.Super
		for _, d := range c.l {
			supers = append(supers, super(d.Name, d.Body))
		}
		same(t, i, lift.Flat(supers), c.want)
	}
}

// bodies are core expressions that may be, or may not, as a Body of a definition f beside a definition g.
var bodies = []struct {
	c    api.Core
	want bool
}{
	// Names.
	{lam(v("#0"), "#0"), true},
	{v("#0"), false},
	{lam(v("#1"), "#0"), false},
	{lam(v("x"), "x"), false},
	{lam(v("0"), "0"), false},
	{lam(v("#-1"), "#-1"), false},
	{lam(v("#00"), "#00"), false},
	{lam(v("#"), "#"), false},
	{lam(v("##0"), "##0"), false},
	{lam(v(""), ""), false},
	{lam(v("#0 "), "#0 "), false},
	{lam(v("#9223372036854775807"), "#9223372036854775807"), true},
	{lam(v("#9223372036854775808"), "#9223372036854775808"), false},
	{lam(v("#5"), "#3", "#5", "#4"), true},
	{lam(v("#5"), "#5", "#5"), false},
	{lam(v("#5"), "#5", "#3", "#5"), false},
	{lam(integer(1)), false},
	{lam(lam(v("#0"), "#0"), "#0"), true},
	{app(lam(v("#0"), "#0"), v("#0")), false},
	{api.Core{Kind: api.CVar, Name: "#0", Params: []string{"#0"}}, false},
	// Globals.
	{glob("f"), true}, {glob("g"), true}, {glob("h"), false}, {glob(""), false}, {glob("+"), true}, {glob(">="), true}, {glob("="), false}, {glob("#0"), false}, {glob("f#1"), false}, {lam(glob("#0"), "#0"), false},
	// Integers and constructors.
	{integer(0), true}, {integer(math.MinInt64), true}, {integer(math.MaxInt64), true},
	{con("A", 0, 0), true}, {con("A", 7, 1), true}, {con("a", 0, math.MaxInt), true}, {con("A", math.MaxInt64, 9), true}, {con("f", 0, 0), true}, {con("+", 0, 0), true},
	{con("", 0, 0), false}, {con("A", -1, 0), false}, {con("A", 0, -1), false}, {con("A", math.MinInt64, math.MinInt), false},
	// Applications and primitives.
	{app(glob("f"), integer(1)), true},
	{app(integer(1), integer(1)), true},
	{api.Core{Kind: api.CApp}, false},
	{api.Core{Kind: api.CApp, Args: []api.Core{integer(1)}}, false},
	{api.Core{Kind: api.CApp, Args: []api.Core{integer(1), integer(1), integer(1)}}, false},
	{app(glob("h"), integer(1)), false}, {app(integer(1), v("#0")), false}, {app(integer(1), api.Core{}), false},
	{prim("+", integer(1), integer(2)), true}, {prim(">=", integer(1), fail()), true}, {prim("?", integer(1), integer(2)), false},
	{api.Core{Kind: api.CPrim, N: -1, Args: []api.Core{integer(1), integer(2)}}, false},
	{api.Core{Kind: api.CPrim, N: 12, Args: []api.Core{integer(1), integer(2)}}, false},
	{api.Core{Kind: api.CPrim, N: 1<<32 + 1, Args: []api.Core{integer(1), integer(2)}}, false},
	{api.Core{Kind: api.CPrim, N: math.MinInt64, Args: []api.Core{integer(1), integer(2)}}, false},
	{api.Core{Kind: api.CPrim, N: 1, Args: []api.Core{integer(1)}}, false},
	{api.Core{Kind: api.CPrim, N: 1, Args: []api.Core{integer(1), integer(1), integer(1)}}, false},
	// Bindings.
	{let(v("#0"), bind("#0", integer(1))), true},
	{let(v("#0"), bind("#0", v("#0"))), true},
	{let(v("#1"), bind("#0", v("#1")), bind("#1", v("#0"))), true},
	{let(v("#1"), bind("#0", v("#1"))), false},
	{let(v("#0"), bind("#0", v("#1"))), false},
	{let(v("#0"), bind("#0", integer(1)), bind("#0", integer(1))), false},
	{let(integer(1)), false},
	{let(integer(1), bind("x", integer(1))), false},
	{let(integer(1), bind("", integer(1))), false},
	{app(let(integer(1), bind("#0", integer(1))), v("#0")), false},
	{let(lam(v("#0"), "#1"), bind("#0", lam(v("#0"), "#0"))), true},
	{api.Core{Kind: api.CLet, Binds: []api.CBind{bind("#0", integer(1))}}, false},
	// Cases.
	{choice(integer(1)), false},
	{choice(integer(1), ofAny(integer(1))), true},
	{choice(integer(1), ofAny(integer(1)), ofAny(integer(1))), false},
	{choice(integer(1), ofAny(integer(1)), ofInt(1, integer(1))), false},
	{choice(integer(1), ofAny(integer(1)), ofCon(integer(1), "A", 0)), false},
	{choice(integer(1), ofInt(1, integer(1))), false},
	{choice(integer(1), ofInt(1, integer(1)), ofInt(2, integer(1))), false},
	{choice(integer(1), ofInt(1, integer(1)), ofAny(integer(1))), true},
	{choice(integer(1), ofInt(3, integer(1)), ofInt(math.MinInt64, integer(2)), ofInt(0, integer(2)), ofAny(integer(1))), true},
	{choice(integer(1), ofInt(1, integer(1)), ofInt(1, integer(2)), ofAny(integer(1))), false},
	{choice(integer(1), ofInt(1, integer(1)), ofInt(2, integer(1)), ofInt(1, integer(2)), ofAny(integer(1))), false},
	{choice(integer(1), ofInt(1, integer(1)), ofAny(integer(1)), ofInt(2, integer(1)), ofAny(integer(1))), false},
	{choice(integer(1), ofInt(1, integer(1)), ofCon(integer(1), "A", 0), ofAny(integer(1))), false},
	{choice(integer(1), ofCon(integer(1), "A", 0), ofInt(0, integer(1)), ofAny(integer(1))), false},
	{choice(integer(1), ofCon(integer(1), "A", 0)), true},
	{choice(integer(1), ofCon(integer(1), "A", 0), ofAny(integer(1))), true},
	{choice(integer(1), ofCon(integer(1), "A", 0), ofCon(integer(1), "B", 1), ofCon(integer(1), "C", 9)), true},
	{choice(integer(1), ofCon(integer(1), "B", 1), ofCon(integer(1), "A", 0), ofAny(integer(1))), true},
	{choice(integer(1), ofCon(integer(1), "A", 0), ofCon(integer(2), "A", 0)), false},
	{choice(integer(1), ofCon(integer(1), "A", 0, "#0"), ofCon(integer(2), "A", 0, "#0"), ofAny(integer(1))), false},
	{choice(integer(1), ofCon(integer(1), "A", 0), ofCon(integer(1), "B", 1), ofCon(integer(2), "A", 0), ofAny(integer(1))), false},
	{choice(integer(1), ofCon(integer(1), "", 0)), false},
	{choice(integer(1), ofCon(integer(1), "A", -1)), false},
	{choice(integer(1), ofCon(integer(1), "A", math.MaxInt64)), true},
	{choice(integer(1), ofCon(v("#1"), "A", 0, "#0", "#1", "#2")), true},
	{choice(integer(1), ofCon(v("#1"), "A", 0, "#0", "#1", "#1")), false},
	{choice(integer(1), ofCon(integer(1), "A", 0, "x")), false},
	{choice(integer(1), ofCon(integer(1), "A", 0, "#0"), ofAny(v("#0"))), false},
	{choice(v("#0"), ofCon(integer(1), "A", 0, "#0")), false},
	{choice(integer(1), ofCon(integer(1), "A", 0, "#0"), ofCon(v("#0"), "B", 1, "#1")), false},
	{choice(integer(1), api.CAlt{Body: integer(1)}, ofAny(integer(1))), false},
	{choice(integer(1), api.CAlt{Kind: 4, Body: integer(1)}), false},
	{choice(integer(1), api.CAlt{Kind: -1, Body: integer(1)}, ofAny(integer(1))), false},
	{choice(integer(1), api.CAlt{Kind: api.AInt, N: 1, Name: "A", Body: integer(1)}, ofAny(integer(1))), false},
	{choice(integer(1), api.CAlt{Kind: api.AInt, N: 1, Params: []string{"#0"}, Body: integer(1)}, ofAny(integer(1))), false},
	{choice(integer(1), api.CAlt{Kind: api.AInt, N: 1, Params: []string{}, Body: integer(1)}, ofAny(integer(1))), true},
	{choice(integer(1), api.CAlt{Kind: api.AAny, N: 1, Body: integer(1)}), false},
	{choice(integer(1), api.CAlt{Kind: api.AAny, Name: "A", Body: integer(1)}), false},
	{choice(integer(1), api.CAlt{Kind: api.AAny, Params: []string{"#0"}, Body: integer(1)}), false},
	{choice(integer(1), ofAny(api.Core{})), false},
	{choice(integer(1), ofInt(1, glob("h")), ofAny(integer(1))), false},
	{api.Core{Kind: api.CCase, Alts: []api.CAlt{ofAny(integer(1))}}, false},
	{api.Core{Kind: api.CCase, Args: []api.Core{integer(1), integer(1)}, Alts: []api.CAlt{ofAny(integer(1))}}, false},
	// Picks.
	{pick(integer(1)), true},
	{pick(integer(1), on(0, integer(2)), on(1, fail()), on(-1, integer(2)), on(math.MaxInt, pick(integer(3)))), true},
	{pick(integer(1), on(1, integer(2)), on(1, integer(2))), false},
	{pick(integer(1), on(1, integer(2)), on(2, integer(2)), on(1, integer(3))), false},
	{pick(integer(1), on(1, v("#0"))), false},
	{pick(v("#0")), false},
	{api.Core{Kind: api.CPick}, false},
	{api.Core{Kind: api.CPick, Picks: []api.Choice{on(1, integer(1))}}, false},
	{api.Core{Kind: api.CPick, Args: []api.Core{integer(1), integer(2)}}, false},
	// None, and no kinds.
	{fail(), true}, {api.Core{}, false}, {api.Core{Kind: 12}, false}, {api.Core{Kind: -1}, false}, {api.Core{Kind: math.MinInt}, false},
}

func TestBodies(t *testing.T) {
	for _, b := range bodies {
		l := []api.Def{def("f", b.c), def("g", integer(1))}
		same(t, text(b.c), lift.Right(l), b.want)
		supers, err := lift.Lift(l)
		same(t, text(b.c), err == api.OK && lift.Flat(supers), b.want)
		if !b.want {
			same(t, text(b.c), err, api.ErrArg)
			same(t, text(b.c), len(supers), 0)
			same(t, text(b.c), lift.Flat([]api.Super{super("f", b.c), super("g", integer(1))}), false)
		}
		// Within others it may be just so.
		for i, c := range around(b.c) {
			same(t, fmt.Sprint(i, text(c)), lift.Right([]api.Def{def("g", integer(1)), def("f", c)}), b.want)
		}
	}
}

// around are expressions in which one stands, in all ways.
func around(c api.Core) []api.Core {
	one := integer(1)
	return []api.Core{
		app(c, one), app(one, c), prim("+", c, one), prim("+", one, c), lam(c, "#7"), let(c, bind("#7", one)), let(one, bind("#8", one), bind("#7", c)),
		choice(c, ofAny(one)), choice(one, ofCon(c, "A", 0), ofAny(one)), choice(one, ofInt(0, c), ofAny(one)), choice(one, ofAny(c)), pick(c), pick(one, on(0, one), on(3, c)),
	}
}

// What an expression's Kind does not name is zero.
func TestNothingElse(t *testing.T) {
	one := integer(1)
	kinds := []api.Core{lam(one, "#0"), glob("f"), one, con("A", 1, 2), app(one, one), prim("+", one, one), fail(), let(one, bind("#0", one)), choice(one, ofAny(one)), pick(one, on(1, one)), v("#0")}
	more := []struct {
		what string
		add  func(c *api.Core)
		has  []int
	}{
		{"a Name", func(c *api.Core) { c.Name += "f" }, []int{api.CCon}},
		{"an N", func(c *api.Core) { c.N++ }, []int{api.CInt, api.CCon, api.CPrim}},
		{"an Arity", func(c *api.Core) { c.Arity++ }, []int{api.CCon}},
		{"a Param", func(c *api.Core) { c.Params = append(c.Params, "#1") }, []int{api.CLam}},
		{"an Arg", func(c *api.Core) { c.Args = append(c.Args, one) }, nil},
		{"an Alt", func(c *api.Core) { c.Alts = append([]api.CAlt{ofInt(1, one)}, c.Alts...) }, []int{api.CCase}},
		{"a Bind", func(c *api.Core) { c.Binds = append(c.Binds, bind("#5", one)) }, []int{api.CLet}},
		{"a Pick", func(c *api.Core) { c.Picks = append(c.Picks, on(9, one)) }, []int{api.CPick}},
		{"empty lists", func(c *api.Core) {
			c.Params, c.Args, c.Alts = append([]string{}, c.Params...), append([]api.Core{}, c.Args...), append([]api.CAlt{}, c.Alts...)
			c.Binds, c.Picks = append([]api.CBind{}, c.Binds...), append([]api.Choice{}, c.Picks...)
		}, []int{1, 2, 3, 4, 5, 6, 7, 8, 9, 10, 11}},
	}
	for _, c := range kinds {
		for _, m := range more {
			with := c
			m.add(&with)
			want := slices.Contains(m.has, c.Kind)
			what := fmt.Sprint(text(c), " with ", m.what)
			same(t, what, lift.Right([]api.Def{def("f", lam(with, "#0"))}), want)
			_, err := lift.Lift([]api.Def{def("f", lam(with, "#0"))})
			same(t, what, err == api.OK, want)
			same(t, what, lift.Flat([]api.Super{super("f", with, "#0")}), want && c.Kind != api.CLam)
		}
	}
}

// P15.1: what is flat

func TestFlat(t *testing.T) {
	one, x := integer(1), v("#0")
	for _, c := range []struct {
		l    []api.Super
		want bool
	}{
		{nil, true},
		{[]api.Super{super("f", one)}, true},
		{[]api.Super{super("f", x, "#0")}, true},
		{[]api.Super{super("f", x, "#1", "#0")}, true},
		{[]api.Super{super("f", x, "#1")}, false},
		{[]api.Super{super("f", x)}, false},
		{[]api.Super{super("f", x, "#0", "#0")}, false},
		{[]api.Super{super("f", one, "#0", "#1", "#0")}, false},
		{[]api.Super{super("f", one, "x")}, false},
		{[]api.Super{super("f", one, "")}, false},
		{[]api.Super{super("f", one, "#-1")}, false},
		{[]api.Super{super("f", one, "#01")}, false},
		{[]api.Super{super("f", one, "#0", "x")}, false},
		{[]api.Super{super("f", one), super("f", one)}, false},
		{[]api.Super{super("f", one), super("f#1", one), super("g", glob("f#1"))}, true},
		{[]api.Super{super("f", one), super("f#1", one), super("f#1", one)}, false},
		{[]api.Super{super("f", glob("f#1"))}, false},
		{[]api.Super{super("f", glob("/=")), super("", one)}, false},
		{[]api.Super{super("/=", one)}, false},
		{[]api.Super{super("#0", one)}, true},
		{[]api.Super{{}}, false},
		{[]api.Super{{Name: "f"}}, false},
		// Names that are bound further in.
		{[]api.Super{super("f", let(v("#1"), bind("#1", x)), "#0")}, true},
		{[]api.Super{super("f", let(v("#1"), bind("#0", v("#1")), bind("#1", x)))}, true},
		{[]api.Super{super("f", app(let(one, bind("#1", one)), v("#1")))}, false},
		{[]api.Super{super("f", choice(x, ofCon(app(x, v("#1")), "A", 0, "#1", "#0")), "#0")}, true},
		{[]api.Super{super("f", choice(x, ofCon(one, "A", 0, "#1"), ofAny(v("#1"))), "#0")}, false},
		// A name that is free in one of them is not bound by another one.
		{[]api.Super{super("f", one, "#0"), super("g", x)}, false},
	} {
		same(t, texts(c.l), lift.Flat(c.l), c.want)
	}
}

// Where something is asked at once, and where later.
var atOnce = []func(c api.Core) api.Core{
	func(c api.Core) api.Core { return c },
	func(c api.Core) api.Core { return choice(c, ofAny(integer(1))) },
	func(c api.Core) api.Core { return choice(integer(1), ofAny(c)) },
	func(c api.Core) api.Core { return choice(integer(1), ofInt(3, c), ofAny(integer(1))) },
	func(c api.Core) api.Core {
		return choice(integer(1), ofCon(integer(1), "B", 1), ofCon(c, "A", 0, "#0", "#5"))
	},
	func(c api.Core) api.Core { return prim("+", c, integer(1)) },
	func(c api.Core) api.Core { return prim("<", integer(1), c) },
	func(c api.Core) api.Core { return let(c, bind("#0", integer(1)), bind("#1", v("#0"))) },
	func(c api.Core) api.Core { return pick(c) },
	func(c api.Core) api.Core { return pick(integer(1), on(4, integer(1)), on(2, c)) },
}

var askedLater = []func(c api.Core) api.Core{
	func(c api.Core) api.Core { return app(c, integer(1)) },
	func(c api.Core) api.Core { return app(integer(1), c) },
	func(c api.Core) api.Core { return let(integer(1), bind("#0", c), bind("#1", v("#0"))) },
	func(c api.Core) api.Core { return let(integer(1), bind("#1", v("#0")), bind("#0", c)) },
}

// What is asked later where it stands, but may be there.
var stillLater = []func(c api.Core) api.Core{
	func(c api.Core) api.Core { return c },
	func(c api.Core) api.Core { return prim("+", c, integer(1)) },
	func(c api.Core) api.Core { return prim("+", integer(1), c) },
	func(c api.Core) api.Core { return let(c, bind("#0", integer(1))) },
	func(c api.Core) api.Core { return let(integer(1), bind("#0", c)) },
	func(c api.Core) api.Core { return app(c, integer(1)) },
	func(c api.Core) api.Core { return app(integer(1), integer(2), c) },
}

// parts are expressions, and whether they may stand in what is flat where they are asked at once, and later.
var parts = []struct {
	c           api.Core
	once, later bool
}{
	{lam(integer(1), "#3"), false, false},
	{choice(integer(1), ofAny(integer(2))), true, false},
	{pick(integer(1), on(1, integer(2))), true, false},
	{pick(integer(1)), true, false},
	{fail(), true, false},
	{integer(1), true, true},
	{v("#9"), true, true},
	{glob("+"), true, true},
	{con("A", 0, 1), true, true},
	{app(glob("+"), integer(1)), true, true},
	{prim("+", integer(1), integer(1)), true, true},
	{let(v("#4"), bind("#4", integer(1))), true, true},
}

func TestWhereFlat(t *testing.T) {
	check := func(c api.Core, part api.Core, may bool) {
		t.Helper()
		same(t, text(c), lift.Flat([]api.Super{super("f", c, "#9")}), may)
		d := def("f", lam(c, "#9"))
		l, err := lift.Lift([]api.Def{d})
		same(t, text(c), err, api.OK)
		same(t, texts(l), lift.Flat(l), true)
		if may { // as it was
			same(t, text(c), l, []api.Super{super("f", c, "#9")})
			return
		}
		if len(l) != 2 || l[1].Name != "f#1" {
			t.Fatal(text(c), texts(l))
		}
		want := super("f#1", part)
		if part.Kind == api.CLam {
			want = super("f#1", part.Args[0], part.Params...)
		}
		same(t, text(c), l[1], want)
	}
	for _, p := range parts {
		for _, a := range atOnce {
			for _, b := range atOnce {
				check(a(b(p.c)), p.c, p.once)
				for _, c := range askedLater {
					for _, d := range stillLater {
						check(a(b(c(d(p.c)))), p.c, p.later)
					}
				}
			}
		}
	}
}

// P15.1: what is made

func TestLift(t *testing.T) {
	x, y, z, one := v("#0"), v("#1"), v("#2"), integer(1)
	for _, c := range []struct {
		d    api.Core
		want string
	}{
		{one, "f = 1"},
		{lam(x, "#0"), "f #0 = #0"},
		{lam(x, "#0", "#1"), "f #0 #1 = #0"},
		// The chapter's example.
		{lam(lam(x, "#1"), "#0"), "f #0 = (f#1 #0)\nf#1 #0 #1 = #0"},
		{lam(lam(y, "#1"), "#0"), "f #0 = f#1\nf#1 #1 = #1"},
		{lam(lam(x, "#0"), "#0"), "f #0 = f#1\nf#1 #0 = #0"},
		{lam(lam(lam(app(z, x), "#2"), "#1"), "#0"), "f #0 = (f#1 #0)\nf#1 #0 #1 = (f#2 #0)\nf#2 #0 #2 = (#2 #0)"},
		{lam(lam(lam(app(y, x), "#2"), "#1"), "#0"), "f #0 = (f#1 #0)\nf#1 #0 #1 = ((f#2 #1) #0)\nf#2 #1 #0 #2 = (#1 #0)"},
		// What is asked at once stays; a CLam never does.
		{choice(one, ofAny(fail())), "f = case 1 {_ -> fail}"},
		{choice(one, ofAny(lam(x, "#0"))), "f = case 1 {_ -> f#1}\nf#1 #0 = #0"},
		{choice(lam(x, "#0"), ofAny(one)), "f = case f#1 {_ -> 1}\nf#1 #0 = #0"},
		{pick(lam(x, "#0"), on(2, lam(lam(x, "#1"), "#0"))), "f = pick f#1 {2: f#2}\nf#1 #0 = #0\nf#2 #0 = (f#3 #0)\nf#3 #0 #1 = #0"},
		{lam(prim("+", choice(x, ofAny(one)), pick(x)), "#0"), "f #0 = (+: case #0 {_ -> 1} pick #0 {})"},
		// What is asked later gets a name.
		{app(fail(), one), "f = (f#1 1)\nf#1 = fail"},
		{app(one, fail()), "f = (1 f#1)\nf#1 = fail"},
		{app(fail(), fail()), "f = (f#1 f#2)\nf#1 = fail\nf#2 = fail"},
		{lam(app(glob("+"), choice(x, ofInt(1, y), ofAny(x)), one), "#0", "#1"), "f #0 #1 = ((+ ((f#1 #0) #1)) 1)\nf#1 #0 #1 = case #0 {1 -> #1; _ -> #0}"},
		{lam(app(glob("f"), pick(prim("+", y, x), on(1, y), on(2, x))), "#0", "#1"), "f #0 #1 = (f ((f#1 #1) #0))\nf#1 #1 #0 = pick (+: #1 #0) {1: #1; 2: #0}"},
		{lam(app(glob("f"), prim("+", choice(x, ofAny(one)), one)), "#0"), "f #0 = (f (+: (f#1 #0) 1))\nf#1 #0 = case #0 {_ -> 1}"},
		{lam(let(y, bind("#1", choice(x, ofAny(y)))), "#0"), "f #0 = let {#1 = ((f#1 #0) #1)} in #1\nf#1 #0 #1 = case #0 {_ -> #1}"},
		// Names that need each other.
		{lam(let(app(x, y), bind("#0", lam(app(y, z), "#2")), bind("#1", lam(app(x, z), "#2"))), "#3"),
			"f #3 = let {#0 = (f#1 #1); #1 = (f#2 #0)} in (#0 #1)\nf#1 #1 #2 = (#1 #2)\nf#2 #0 #2 = (#0 #2)"},
		{let(x, bind("#0", lam(app(x, y), "#1"))), "f = let {#0 = (f#1 #0)} in #0\nf#1 #0 #1 = (#0 #1)"},
		// Parts in one another: first what is further out, and what stands ahead.
		{app(lam(app(x, lam(app(x, y), "#1")), "#0"), choice(one, ofAny(app(one, fail())))),
			"f = (f#1 f#3)\nf#1 #0 = (#0 (f#2 #0))\nf#2 #0 #1 = (#0 #1)\nf#3 = case 1 {_ -> (1 f#4)}\nf#4 = fail"},
		{lam(choice(app(fail(), one), ofInt(1, app(one, fail())), ofAny(lam(x, "#1"))), "#0"), "f #0 = case (f#1 1) {1 -> (1 f#2); _ -> (f#3 #0)}\nf#1 = fail\nf#2 = fail\nf#3 #0 #1 = #0"},
		{let(app(one, fail()), bind("#0", lam(one, "#1")), bind("#2", fail())), "f = let {#0 = f#2; #2 = f#3} in (1 f#1)\nf#1 = fail\nf#2 #1 = 1\nf#3 = fail"},
		{pick(app(one, fail()), on(1, app(fail(), one)), on(5, app(one, fail()))), "f = pick (1 f#1) {1: (f#2 1); 5: (1 f#3)}\nf#1 = fail\nf#2 = fail\nf#3 = fail"},
		// A name that stands often is handed on once; what is hidden further in is another one.
		{lam(lam(app(x, x, y, x), "#1"), "#0"), "f #0 = (f#1 #0)\nf#1 #0 #1 = (((#0 #0) #1) #0)"},
		{lam(app(x, choice(x, ofCon(app(x, lam(app(x, y), "#2")), "A", 0, "#0", "#1"), ofAny(x))), "#0", "#1"),
			"f #0 #1 = (#0 (f#1 #0))\nf#1 #0 = case #0 {A/0 #0 #1 -> (#0 ((f#2 #0) #1)); _ -> #0}\nf#2 #0 #1 #2 = (#0 #1)"},
		{lam(app(lam(app(lam(x, "#0"), x), "#0"), x), "#0"), "f #0 = (f#1 #0)\nf#1 #0 = (f#2 #0)\nf#2 #0 = #0"},
		{lam(lam(let(lam(app(x, y), "#2"), bind("#0", app(x, lam(x, "#3")))), "#1"), "#0"), "f #0 = f#1\nf#1 #1 = let {#0 = (#0 (f#3 #0))} in ((f#2 #0) #1)\nf#2 #0 #1 #2 = (#0 #1)\nf#3 #0 #3 = #0"},
		{lam(choice(x, ofCon(app(one, lam(app(x, y), "#2")), "A", 0, "#1"), ofCon(lam(app(x, y), "#1"), "B", 1, "#0")), "#0"),
			"f #0 = case #0 {A/0 #1 -> (1 ((f#1 #0) #1)); B/1 #0 -> (f#2 #0)}\nf#1 #0 #1 #2 = (#0 #1)\nf#2 #0 #1 = (#0 #1)"},
	} {
		l, err := lift.Lift([]api.Def{def("f", c.d)})
		same(t, text(c.d), err, api.OK)
		if texts(l) != c.want {
			t.Errorf("%s:\n%s\nnot\n%s", text(c.d), texts(l), c.want)
		}
	}
	// Several definitions: behind each what was made of it.
	l, err := lift.Lift([]api.Def{def("g#", lam(lam(x, "#1"), "#0")), def("f", glob("h")), def("h", app(one, fail()))})
	same(t, "several", err, api.OK)
	same(t, "several", texts(l), "g# #0 = (g##1 #0)\ng##1 #0 #1 = #0\nf = h\nh = (1 h#1)\nh#1 = fail")
}

// P15.3

func TestFree(t *testing.T) {
	one := integer(1)
	xs := func(l ...string) []api.Core {
		var all []api.Core
		for _, x := range l {
			all = append(all, v(x))
		}
		return all
	}
	every := api.Core{Args: xs("a", "b"), Alts: []api.CAlt{ofAny(v("c")), ofAny(v("d"))}, Binds: []api.CBind{bind("x", v("e")), bind("y", v("f"))}, Picks: []api.Choice{on(1, v("g")), on(1, v("h"))}}
	with := func(kind int, params ...string) api.Core {
		c := every
		c.Kind, c.Params = kind, params
		return c
	}
	for _, c := range []struct {
		c    api.Core
		want string
	}{
		{v("#0"), "#0"}, {v("x"), "x"}, {v(""), ""}, {glob("#0"), "-"}, {one, "-"}, {con("#0", 0, 0), "-"}, {fail(), "-"}, {api.Core{}, "-"}, {api.Core{Name: "#0"}, "-"},
		{app(v("#1"), v("#0")), "#1 #0"},
		{app(v("#0"), v("#0"), v("#1"), v("#0")), "#0 #1"},
		{app(glob("f"), v("f")), "f"},
		{prim("+", v("b"), v("a")), "b a"},
		{lam(v("a"), "a"), "-"}, {lam(v("a"), "b"), "a"}, {lam(v("a"), "b", "a"), "-"}, {lam(app(v("c"), v("a"), v("b")), "a", "a"), "c b"},
		{app(lam(v("a"), "a"), v("a")), "a"},
		{app(v("b"), lam(app(v("a"), v("b"), v("c")), "b")), "b a c"},
		{lam(lam(app(v("a"), v("b"), v("c")), "a"), "b"), "c"},
		{lam(app(lam(v("a"), "a"), v("a")), "a"), "-"},
		// Within what binds a name twice it is free again only behind both.
		{app(lam(lam(v("a"), "a"), "a"), lam(v("b"), "a"), v("a")), "b a"},
		{let(v("a"), bind("a", v("b"))), "b"},
		{let(v("a"), bind("a", v("a"))), "-"},
		{let(v("a"), bind("b", v("a")), bind("a", v("b"))), "-"},
		{let(v("a"), bind("b", v("c"))), "a c"},
		{let(v("d"), bind("b", v("e")), bind("c", v("d"))), "d e"},
		{app(let(v("a"), bind("a", one)), v("a")), "a"},
		{choice(v("a"), ofCon(app(v("a"), v("b")), "A", 0, "b"), ofAny(app(v("b"), v("c")))), "a b c"},
		{choice(v("b"), ofCon(v("a"), "A", 0, "a", "b"), ofCon(v("c"), "A", 0, "b")), "b c"},
		{choice(one, ofInt(1, v("b")), ofAny(v("a"))), "b a"},
		{pick(v("b"), on(1, v("c")), on(1, v("a")), on(2, v("b"))), "b c a"},
		// What may not be: all parts, in order, whatever the Kind.
		{with(0), "a b c d e f g h"}, {with(99), "a b c d e f g h"}, {with(api.CInt), "a b c d e f g h"}, {with(api.CFail), "a b c d e f g h"}, {with(api.CCase), "a b c d e f g h"}, {with(api.CLet), "a b c d e f g h"},
		{api.Core{Kind: api.CVar, Name: "i", Args: every.Args, Alts: every.Alts, Binds: every.Binds, Picks: every.Picks}, "i a b c d e f g h"},
		{api.Core{Kind: api.CVar, Name: "h", Args: every.Args, Alts: every.Alts, Binds: every.Binds, Picks: every.Picks}, "h a b c d e f g"},
		{api.Core{Kind: api.CGlob, Name: "i", Args: every.Args}, "a b"},
		// The Params of every Kind but CLet are bound in all of it.
		{with(api.CLam, "a", "c", "e", "g"), "b d f h"}, {with(api.CApp, "b", "d", "f", "h"), "a c e g"}, {with(0, "a", "b", "c", "d", "e", "f", "g"), "h"}, {with(-5, "h"), "a b c d e f g"}, {with(api.CPick, "x"), "a b c d e f g h"},
		{api.Core{Kind: api.CVar, Name: "a", Params: []string{"a"}, Args: xs("a", "b")}, "b"},
		{with(api.CLet, "a", "c", "e", "g"), "a b c d e f g h"},
		// The names of a CLet are bound in all of it, those of Binds of another Kind in nothing.
		{api.Core{Kind: api.CLet, Args: xs("a", "b"), Alts: []api.CAlt{ofAny(v("a")), ofAny(v("c"))}, Picks: []api.Choice{on(1, v("d")), on(1, v("b"))}, Binds: []api.CBind{bind("a", v("b")), bind("d", v("a")), bind("a", v("d"))}}, "b c"},
		{api.Core{Kind: api.CLam, Args: xs("a"), Binds: []api.CBind{bind("a", v("a"))}}, "a"},
		{api.Core{Kind: api.CPick, Args: xs("b"), Binds: []api.CBind{bind("a", v("a")), bind("b", v("a"))}}, "b a"},
		// The Params of alternatives of every Kind are bound in these.
		{choice(one, api.CAlt{Kind: api.AInt, Params: []string{"a"}, Body: app(v("a"), v("b"))}, ofAny(v("a"))), "b a"},
		{choice(one, api.CAlt{Kind: api.AAny, Params: []string{"a"}, Body: app(v("a"), v("b"))}), "b"},
		{choice(one, api.CAlt{Kind: 77, Params: []string{"a", "a"}, Body: app(v("a"), v("b"))}, api.CAlt{Body: v("a")}), "b a"},
		{api.Core{Alts: []api.CAlt{{Params: []string{"a"}, Body: v("a")}, {Body: lam(v("b"), "a")}}}, "b"},
	} {
		l := lift.Free(c.c)
		got := strings.Join(l, " ")
		if len(l) == 0 {
			got = "-"
		}
		same(t, text(c.c), got, c.want)
	}
}

// P15.4, P15.5

func TestAsTheyWere(t *testing.T) {
	x, one := v("#0"), integer(1)
	l := []api.Def{
		def("a", lam(choice(x, ofCon(choice(v("#7"), ofInt(3, x), ofAny(fail())), "C", 1, "#0", "#7"), ofAny(pick(x, on(3, fail()), on(1, x)))), "#0", "#1")),
		def("b", prim("+", choice(one, ofAny(one)), prim("-", pick(one), fail()))),
		def("c", let(choice(v("#2"), ofAny(x)), bind("#0", app(glob("a"), v("#2"), prim("*", one, one))), bind("#2", let(x, bind("#1", v("#1")))))),
		def("d", lam(app(con("C", 1, 2), x, app(glob("c"), glob("+"))), "#0")),
		def("e", fail()), def("f", pick(fail())), def("g", lam(x, "#0")), def("h", con("N", 0, 0)),
	}
	supers, err := lift.Lift(l)
	same(t, "error", err, api.OK)
	var want []api.Super
	for _, d := range l {
		if d.Body.Kind == api.CLam {
			want = append(want, super(d.Name, d.Body.Args[0], d.Body.Params...))
		} else {
			want = append(want, super(d.Name, d.Body))
		}
	}
	same(t, "as they were", supers, want)
}

func TestAlone(t *testing.T) {
	body := lam(app(glob("g"), lam(app(v("#0"), choice(v("#1"), ofAny(glob("h")))), "#1"), fail()), "#0")
	var first string
	for i, l := range [][]api.Def{
		{def("f", body), def("g", integer(1)), def("h", integer(2))},
		{def("g", lam(lam(fail(), "#1"), "#0")), def("f", body), def("h", body)},
		{def("h", glob("f")), def("i", fail()), def("g", app(integer(1), fail(), fail())), def("f", body)},
	} {
		supers, err := lift.Lift(l)
		same(t, i, err, api.OK)
		var of []api.Super
		for _, s := range supers {
			if s.Name == "f" || strings.HasPrefix(s.Name, "f#") {
				of = append(of, s)
			}
		}
		if i == 0 {
			first = texts(of)
		}
		same(t, i, texts(of), first)
	}
}

// What is handed in is neither changed nor kept, and no two lists of what is answered share memory.

func TestNewMemory(t *testing.T) {
	params := append(make([]string, 0, 9), "#0")
	shared := append(make([]api.Core, 0, 9), v("#0"), lam(v("#0"), params...))
	body := api.Core{Kind: api.CApp, Args: shared}
	names := append(make([]string, 0, 9), "#0", "#1")
	body = lam(choice(body, ofCon(body, "A", 0, names...), ofCon(body, "B", 0, names...), ofAny(app(body, pick(body, on(1, body), on(2, let(body, bind("#0", body))))))), params...)
	l := []api.Def{def("f", body), def("g", body)}
	was := text(body)
	supers, _ := lift.Lift(l)
	want := texts(supers)
	same(t, "changed", text(l[0].Body)+text(l[1].Body), was+was)
	spoil(&body)
	for i := range params[:cap(params)] {
		params[:cap(params)][i] = "spoilt"
	}
	same(t, "kept", texts(supers), want)
	// Each part of what is answered is changed once, and extended: it turns nothing of the others.
	seen := map[any]int{}
	for i := range supers {
		supers[i].Params = append(supers[i].Params, "#99")
		list(t, seen, supers[i].Params)
		own(t, seen, &supers[i].Body)
	}
}

// spoil changes all that is in an expression.
func spoil(c *api.Core) {
	for i := range c.Params {
		c.Params[i] = "spoilt"
	}
	for i := range c.Args {
		spoil(&c.Args[i])
	}
	for i := range c.Alts {
		spoil(&c.Alts[i].Body)
	}
	for i := range c.Binds {
		spoil(&c.Binds[i].Body)
	}
	for i := range c.Picks {
		spoil(&c.Picks[i].Body)
	}
	c.Kind, c.Name = 99, "spoilt"
}

// list notes a list's memory, also that behind it.
func list[T any](t *testing.T, seen map[any]int, l []T) {
	t.Helper()
	l = l[:cap(l)]
	for i := range l {
		if seen[&l[i]]++; seen[&l[i]] > 1 {
			t.Fatal("memory is shared")
		}
	}
}

func own(t *testing.T, seen map[any]int, c *api.Core) {
	t.Helper()
	list(t, seen, c.Params)
	list(t, seen, c.Args)
	list(t, seen, c.Alts)
	list(t, seen, c.Binds)
	list(t, seen, c.Picks)
	for i := range c.Args {
		own(t, seen, &c.Args[i])
	}
	for i := range c.Alts {
		list(t, seen, c.Alts[i].Params)
		own(t, seen, &c.Alts[i].Body)
	}
	for i := range c.Binds {
		own(t, seen, &c.Binds[i].Body)
	}
	for i := range c.Picks {
		own(t, seen, &c.Picks[i].Body)
	}
}
