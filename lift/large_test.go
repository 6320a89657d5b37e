package lift_test

import (
	"fmt"
	"testing"

	"changeling/api"
	"changeling/lift"
)

// P1: deep and wide ones

// checked are the supercombinators of one definition, once it is known that they are flat.
func checked(t *testing.T, what any, c api.Core) []api.Super {
	t.Helper()
	l := []api.Def{def("f", c)}
	same(t, what, lift.Right(l), true)
	same(t, what, len(lift.Free(c)), 0)
	supers, err := lift.Lift(l)
	same(t, what, err, api.OK)
	same(t, what, lift.Flat(supers), true)
	return supers
}

func TestDeep(t *testing.T) {
	t.Parallel()
	x, y, one := v("#0"), v("#1"), integer(1)
	const deep = 1 << 15
	for i, c := range []struct {
		within func(api.Core) api.Core
		supers int // of each
	}{
		{func(c api.Core) api.Core { return app(c, x) }, 0},
		{func(c api.Core) api.Core { return app(x, c) }, 0},
		{func(c api.Core) api.Core { return prim("+", c, x) }, 0},
		{func(c api.Core) api.Core { return prim("+", x, c) }, 0},
		{func(c api.Core) api.Core { return lam(c, "#1") }, 1},
		{func(c api.Core) api.Core { return app(lam(c, "#1", "#2"), x) }, 1},
		{func(c api.Core) api.Core { return let(c, bind("#1", x)) }, 0},
		{func(c api.Core) api.Core { return let(y, bind("#1", c), bind("#2", y)) }, 0},
		{func(c api.Core) api.Core { return let(y, bind("#1", lam(c, "#2"))) }, 1},
		{func(c api.Core) api.Core { return choice(c, ofAny(x)) }, 0},
		{func(c api.Core) api.Core { return choice(x, ofCon(c, "C", 1, "#1", "#0")) }, 0},
		{func(c api.Core) api.Core { return app(x, choice(x, ofInt(1, one), ofAny(c))) }, 1},
		{func(c api.Core) api.Core { return app(pick(x, on(1, c)), one) }, 1},
		{func(c api.Core) api.Core { return pick(c, on(1, fail())) }, 0},
		{func(c api.Core) api.Core { return pick(one, on(1, x), on(3, c)) }, 0},
	} {
		e := x
		for range deep {
			e = c.within(e)
		}
		same(t, i, lift.Free(e), []string{"#0"})
		same(t, i, len(checked(t, i, lam(e, "#0"))), 1+deep*c.supers)
		same(t, i, lift.Right([]api.Def{def("f", e)}), false)
	}
	e := fail()
	for range 1<<16 - 2 {
		e = app(e, one)
	}
	same(t, "failing", len(checked(t, "failing", e)), 2)
}

func TestWide(t *testing.T) {
	t.Parallel()
	const wide = 1 << 16
	one := integer(1)
	of, cons, all := choice(v("#0")), choice(v("#0")), pick(v("#0"))
	lets := let(v("#0"))
	f := lam(v("#0"))
	apps := v("#0")
	for i := range wide {
		name := fmt.Sprint("#", i)
		of.Alts = append(of.Alts, ofInt(int64(i), one))
		cons.Alts = append(cons.Alts, ofCon(v(name), fmt.Sprint("C", i), int64(i), name, "#99999"))
		all.Picks = append(all.Picks, on(i, v("#0")))
		lets.Binds = append(lets.Binds, bind(name, lam(v(fmt.Sprint("#", wide-1-i)), "#77777")))
		f.Params = append(f.Params, name)
		if i < 1<<12 {
			apps = app(apps, v(name))
		}
	}
	same(t, "no other integer", lift.Right([]api.Def{def("f", lam(of, "#0"))}), false)
	of.Alts = append(of.Alts, ofAny(one))
	for i, c := range []api.Core{of, cons, all} {
		same(t, i, len(checked(t, i, lam(c, "#0"))), 1)
		same(t, i, len(checked(t, i, lam(app(c, one), "#0"))), 2)
	}
	same(t, "bindings", len(checked(t, "bindings", lets)), 1+wide)
	same(t, "params", len(checked(t, "params", f)[0].Params), wide)
	f.Args[0] = app(one, lam(apps, "#77777"))
	supers := checked(t, "free", f)
	same(t, "free", len(supers[1].Params), 1+1<<12)
	// One too many of each.
	of.Alts[0] = of.Alts[wide-1]
	cons.Alts[0] = cons.Alts[wide-1]
	all.Picks[0] = all.Picks[wide-1]
	lets.Binds[0] = lets.Binds[wide-1]
	f.Params[0] = f.Params[wide-1]
	for i, c := range []api.Core{of, cons, all, lets, f} {
		same(t, i, lift.Right([]api.Def{def("f", lam(c, "#0"))}), false)
	}
	// Definitions side by side.
	var l []api.Def
	for i := range wide {
		l = append(l, def(fmt.Sprint("f", i), lam(app(glob(fmt.Sprint("f", wide-1-i)), lam(v("#0"), "#0")), "#0")))
	}
	many, err := lift.Lift(l)
	same(t, "definitions", err, api.OK)
	same(t, "definitions", len(many), 2*wide)
	same(t, "definitions", lift.Flat(many), true)
	l[0].Name = l[wide-1].Name
	same(t, "definitions", lift.Right(l), false)
}
