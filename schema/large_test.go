package schema_test

import (
	"fmt"
	"testing"

	"changeling/api"
	"changeling/match"
	"changeling/mutate"
	"changeling/parse"
	"changeling/schema"
)

// P1: deep and wide ones

func TestDeep(t *testing.T) {
	t.Parallel()
	one, x := integer(1), v("#0")
	const deep = 1<<16 - 2
	for i, within := range []func(api.Core) api.Core{
		func(c api.Core) api.Core { return app(c, x) },
		func(c api.Core) api.Core { return app(x, c) },
		func(c api.Core) api.Core { return lam(c, "#0", "#1") },
		func(c api.Core) api.Core { return let(c, bind("#0", x)) },
		func(c api.Core) api.Core { return let(x, bind("#0", x), bind("#1", c)) },
		func(c api.Core) api.Core { return choice(c, ofAny(x)) },
		func(c api.Core) api.Core { return choice(x, ofCon(c, "C", 1, "#1", "#0"), ofAny(x)) },
		func(c api.Core) api.Core { return choice(x, ofAny(c)) },
		func(c api.Core) api.Core { return api.Core{Kind: api.CInt, Picks: []api.Choice{on(1, c)}} },
	} {
		nested := func(c api.Core, n int) api.Core {
			for range n {
				c = within(c)
			}
			return c
		}
		c, other, near := nested(one, deep), nested(fail(), deep), nested(nested(one, deep/2), deep-deep/2-1)
		size := match.Size(c)
		m := merged(t, c, on(1, other), on(2, near), on(3, c))
		if inPicks := within(one).Kind == api.CInt; inPicks { // those are alike, and no parts
			same(t, i, match.Size(m), size)
			same(t, i, match.Size(schema.Pick(m, 1)), 1)
			refused(t, i, nested(pick(one), deep), on(1, one))
			continue
		}
		half := match.Size(nested(one, deep/2))
		same(t, i, schema.Points([]api.Def{def("f", m)}), 2)
		if n := match.Size(m); n > size+1+1+half+1 || n < size+4 {
			t.Error(i, n)
		}
		same(t, i, match.Size(schema.Pick(m, 2)), match.Size(near))
		l := schema.Choose([]api.Def{def("f", m)}, 1)
		same(t, i, match.Size(l[0].Body), size)
		same(t, i, deepest(l[0].Body, x), api.CFail)
		same(t, i, deepest(schema.Pick(m, 3), x), api.CInt)
		refused(t, i, nested(pick(one), deep), on(1, one))
		refused(t, i, one, on(1, nested(pick(one), deep)))
	}
	picks := one
	for i := range deep {
		if i%2 == 0 {
			picks = pick(picks, on(1, x))
		} else {
			picks = pick(x, on(2, fail()), on(0, picks))
		}
	}
	same(t, "CPicks", schema.Points([]api.Def{def("f", picks)}), deep)
	same(t, "CPicks", schema.Pick(picks, 0), one)
	same(t, "CPicks", schema.Pick(picks, 2), fail())
	same(t, "CPicks", schema.Pick(picks, 3), x)
}

// deepest is the Kind of what stands deepest in an expression all whose other parts are a leaf.
func deepest(c api.Core, leaf api.Core) int {
	for {
		l := parts(c)
		if len(l) == 0 {
			return c.Kind
		}
		next := l[0]
		for _, p := range l {
			if p.Kind != leaf.Kind {
				next = p
			}
		}
		c = *next
	}
}

func TestWide(t *testing.T) {
	t.Parallel()
	const wide = 1 << 14
	one := integer(1)
	of, lets, all := choice(v("#0")), let(v("#0")), api.Core{Kind: 99}
	f := lam(one)
	for i := range wide {
		name := fmt.Sprint("#", i)
		of.Alts = append(of.Alts, ofInt(int64(i), one))
		lets.Binds = append(lets.Binds, bind(name, one))
		all.Args = append(all.Args, one)
		f.Params = append(f.Params, name)
	}
	for i, c := range []api.Core{of, lets, all, f} {
		other, third := copied(c), copied(c)
		for _, p := range parts(other) {
			*p = fail()
		}
		*parts(third)[len(parts(third))-1] = v("x")
		m := merged(t, c, on(1, other), on(2, third), on(3, c))
		n := len(parts(c))
		same(t, i, schema.Points([]api.Def{def("f", m)}), n)
		same(t, i, match.Size(m), match.Size(c)+2*n+1)
		same(t, i, schema.Pick(m, 1), other)
		same(t, i, schema.Pick(m, 2), third)
		same(t, i, schema.Pick(m, 3), c)
	}
}

// Many choices, of which each second one is the expression, and each third one not alike with it.
func TestManyChoices(t *testing.T) {
	t.Parallel()
	const many = 6 << 13
	c := app(integer(-1), integer(-2))
	var l []api.Choice
	for i := range many {
		body := c
		switch i % 6 {
		case 1, 5:
			body = app(integer(int64(i)), integer(-2))
		case 3:
			body = integer(int64(i))
		}
		l = append(l, on(i*7%many-9, body))
	}
	m := merged(t, c, l...)
	same(t, "CPicks", schema.Points([]api.Def{def("f", m)}), 2)
	same(t, "not alike", len(m.Picks), many/6)
	same(t, "alike", len(m.Args[0].Args[0].Picks), many/3)
	for i := 0; i < many; i += 97 {
		same(t, i, schema.Pick(m, l[i].Select), l[i].Body)
	}
	l[many-1].Select = l[0].Select
	refused(t, "twice", c, l...)
}

// A program as large as sources may be, with as many mutants as there may be.
func TestLargePack(t *testing.T) {
	t.Parallel()
	src := "f = 0"
	for range 100 {
		src += " + 5"
	}
	for i := range 150 {
		src += fmt.Sprintf("\ng%d x = x f", i)
	}
	p, fault := parse.Program(src + "\nh = 1 - 5")
	same(t, "fault", fault, api.Fault{})
	l, fault := mutate.All(p)
	same(t, "fault", fault, api.Fault{Err: api.ErrLong, At: api.Pos{Line: 1, Col: 1}})
	l = mutate.Rewrites(p)
	packed, err := schema.Pack(p, l)
	same(t, "error", err, api.OK)
	if len(l) < 700 {
		t.Error(len(l))
	}
	same(t, "CPicks", schema.Points(packed), 100+101+1+2)
	for i := 0; i <= len(l); i += 53 {
		same(t, i, schema.Choose(packed, i), compiled(t, p, l, i))
	}
}
