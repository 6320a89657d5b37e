package schema_test

import (
	"fmt"
	"slices"
	"testing"

	"changeling/api"
	"changeling/match"
	"changeling/schema"
)

// The chapter's words once more: what an expression is stands in a text of all of it, what of it has to be alike in another one, and its parts stand in one list.

// said is all that an expression is, and heads says all but what its parts and Picks are.
func said(c api.Core) string {
	text := heads(c)
	for _, p := range parts(c) {
		text += "(" + said(*p) + ")"
	}
	for _, p := range c.Picks {
		text += fmt.Sprint("[", p.Select, said(p.Body), "]")
	}
	return text
}

func heads(c api.Core) string {
	text := fmt.Sprintf("%d %q %d %d %q %d %d %d %d", c.Kind, c.Name, c.N, c.Arity, c.Params, len(c.Args), len(c.Alts), len(c.Binds), len(c.Picks))
	for _, a := range c.Alts {
		text += fmt.Sprintf(" %d %q %d %q", a.Kind, a.Name, a.N, a.Params)
	}
	for _, b := range c.Binds {
		text += fmt.Sprintf(" %q", b.Name)
	}
	return text
}

// parts are an expression's Args, and its Alts' and Binds' Bodies.
func parts(c api.Core) []*api.Core {
	var l []*api.Core
	for i := range c.Args {
		l = append(l, &c.Args[i])
	}
	for i := range c.Alts {
		l = append(l, &c.Alts[i].Body)
	}
	for i := range c.Binds {
		l = append(l, &c.Binds[i].Body)
	}
	return l
}

// copied is an expression whose parts may be changed.
func copied(c api.Core) api.Core {
	c.Args, c.Alts, c.Binds = slices.Clone(c.Args), slices.Clone(c.Alts), slices.Clone(c.Binds)
	for _, p := range parts(c) {
		*p = copied(*p)
	}
	return c
}

func mergedAgain(c api.Core, l []api.Choice) api.Core {
	l = slices.DeleteFunc(slices.Clone(l), func(x api.Choice) bool { return said(x.Body) == said(c) })
	if len(l) == 0 {
		return c
	}
	like := slices.DeleteFunc(slices.Clone(l), func(x api.Choice) bool { return heads(x.Body) != heads(c) })
	if len(like) < len(l) {
		unlike := slices.DeleteFunc(slices.Clone(l), func(x api.Choice) bool { return heads(x.Body) == heads(c) })
		return pick(mergedAgain(c, like), unlike...)
	}
	made := copied(c)
	for i, p := range parts(made) {
		var theirs []api.Choice
		for _, x := range l {
			theirs = append(theirs, on(x.Select, *parts(x.Body)[i]))
		}
		*p = mergedAgain(*p, theirs)
	}
	return made
}

func pickedAgain(c api.Core, selector int) api.Core {
	if c.Kind == api.CPick {
		for _, x := range c.Picks {
			if x.Select == selector {
				return pickedAgain(x.Body, selector)
			}
		}
		if len(c.Args) == 0 {
			return api.Core{}
		}
		return pickedAgain(c.Args[0], selector)
	}
	c = copied(c)
	c.Picks = nil
	for _, p := range parts(c) {
		*p = pickedAgain(*p, selector)
	}
	return c
}

func pointsAgain(c api.Core) int {
	n := 0
	for _, p := range parts(c) {
		n += pointsAgain(*p)
	}
	for _, x := range c.Picks {
		n += pointsAgain(x.Body)
	}
	if c.Kind == api.CPick {
		n++
	}
	return n
}

// heldAgain holds what is merged against the chapter's words, and tells how many CPicks it has. Where only CPicks have Picks, picking gives back what was merged (P22.4).
func heldAgain(t *testing.T, c api.Core, l []api.Choice, picks bool) int {
	t.Helper()
	m, err := schema.Merge(c, l)
	if err != api.OK || said(m) != said(mergedAgain(c, l)) {
		t.Fatalf("%d %+v, not %+v, of %+v and %+v", err, m, mergedAgain(c, l), c, l)
	}
	withinBound(t, c, l, m)
	if picks {
		return schema.Points([]api.Def{{Body: m}})
	}
	for _, x := range append(l, on(-77, c), on(1<<40, c)) {
		if got := schema.Pick(m, x.Select); said(got) != said(x.Body) {
			t.Fatalf("%d: %+v, not %+v, of %+v", x.Select, got, x.Body, m)
		}
	}
	return schema.Points([]api.Def{{Body: m}})
}

// All small expressions of some kinds, merged with all pairs of them, in either order.
func TestAllSmall(t *testing.T) {
	t.Parallel()
	one, two, x := integer(1), integer(2), v("#0")
	leaves := []api.Core{one, two, x}
	all := append(slices.Clone(leaves), let(one, bind("#0", x)), let(one, bind("#1", x)), choice(x, ofInt(1, one), ofAny(two)), choice(x, ofInt(2, one), ofAny(two)))
	for _, a := range leaves {
		all = append(all, lam(a, "#0"), lam(a, "#1"), let(a, bind("#0", two)), choice(a, ofAny(x)), choice(x, ofInt(1, two), ofAny(a)))
		for _, b := range leaves {
			all = append(all, app(a, b), prim("+", a, b), app(app(a, x), b))
		}
	}
	points := map[int]int{}
	for _, c := range all {
		for _, a := range all {
			points[heldAgain(t, c, []api.Choice{on(1, a)}, false)]++
			for _, b := range all {
				points[heldAgain(t, c, []api.Choice{on(2, a), on(1, b)}, false)]++
			}
		}
	}
	if points[0] < len(all) || points[1] < 1000 || points[2] < 1000 || points[3] < 10 {
		t.Error(points)
	}
}

// chain makes choices, always the same.
type chain uint32

func (c *chain) pick(n int) int {
	*c = *c*1664525 + 1013904223
	return int(*c>>16) % n
}

func (c *chain) name() string { return []string{"#0", "#1", "f", ""}[c.pick(4)] }

func (c *chain) names() []string {
	var l []string
	for range c.pick(3) {
		l = append(l, c.name())
	}
	return l
}

// making makes expressions, whether they may be or not.
type making struct {
	chain
	picks int // one of so many expressions has Picks; 0: none has
	kinds int // the Kinds are those below
}

func (m *making) expr(depth int) api.Core {
	c := api.Core{Kind: m.pick(m.kinds), Name: m.name(), N: int64(m.pick(2)), Arity: m.pick(2)}
	if depth == 0 || m.pick(6) == 0 {
		return c
	}
	c.Params = m.names()
	for range m.pick(4) {
		c.Args = append(c.Args, m.expr(depth-1))
	}
	if m.pick(3) == 0 {
		for range m.pick(3) {
			c.Alts = append(c.Alts, api.CAlt{Kind: m.pick(4), Name: m.name(), N: int64(m.pick(2)), Params: m.names(), Body: m.expr(depth - 1)})
		}
	}
	if m.pick(3) == 0 {
		for range m.pick(3) {
			c.Binds = append(c.Binds, bind(m.name(), m.expr(depth-1)))
		}
	}
	if m.picks > 0 && m.pick(m.picks) == 0 {
		for range m.pick(4) {
			c.Picks = append(c.Picks, on(m.pick(4), m.expr(depth-1)))
		}
	}
	return c
}

// somewhere is a place in an expression.
func (m *making) somewhere(c *api.Core) *api.Core {
	l := parts(*c)
	if len(l) == 0 || m.pick(4) == 0 {
		return c
	}
	return m.somewhere(l[m.pick(len(l))])
}

// change changes a field of an expression, or all of it.
func (m *making) change(c *api.Core) {
	switch m.pick(11) {
	case 0:
		c.Kind = m.pick(m.kinds)
	case 1:
		c.Name = m.name()
	case 2:
		c.N++
	case 3:
		c.Arity--
	case 4:
		c.Params = m.names()
	case 5:
		c.Args = append(c.Args, m.expr(1))
	case 6:
		c.Args = c.Args[:max(0, len(c.Args)-1)]
	case 7:
		c.Alts = append(c.Alts, api.CAlt{Kind: m.pick(4), Params: m.names(), Body: m.expr(1)})
	case 8:
		if len(c.Alts) > 0 {
			a := &c.Alts[m.pick(len(c.Alts))]
			a.Kind, a.Name, a.N = m.pick(4), m.name(), int64(m.pick(2))
		}
	case 9:
		c.Binds = append(c.Binds, bind(m.name(), m.expr(1)))
	default:
		*c = m.expr(2)
	}
}

func (m *making) choices(c api.Core) []api.Choice {
	var l []api.Choice
	first := m.pick(9) - 4
	for i := range m.pick(7) {
		x := on(first+(i*5)%7, copied(c))
		for range m.pick(4) {
			m.change(m.somewhere(&x.Body))
		}
		if m.pick(9) == 0 {
			x.Body = m.expr(2)
		}
		l = append(l, x)
	}
	return l
}

func TestManyMade(t *testing.T) {
	t.Parallel()
	points, larger := 0, 0
	for _, picks := range []int{0, 4} {
		m := making{chain: 7, picks: picks, kinds: api.CPick}
		for range 3000 {
			c := m.expr(4)
			n := heldAgain(t, c, m.choices(c), picks > 0)
			points += n
			larger += min(1, n/3)
		}
	}
	if points < 6000 || larger < 1000 {
		t.Error(points, larger)
	}
}

// Expressions with CPicks anywhere, picked and refused.
func TestManyPicked(t *testing.T) {
	t.Parallel()
	m := making{chain: 3, picks: 2, kinds: api.CPick + 1}
	points := 0
	for i := range 3000 {
		c := m.expr(5)
		for selector := -1; selector < 5; selector++ {
			got := schema.Pick(c, selector)
			if said(got) != said(pickedAgain(c, selector)) {
				t.Fatalf("%+v, not %+v, of %+v for %d", got, pickedAgain(c, selector), c, selector)
			}
			if schema.Points([]api.Def{{Body: got}}) > 0 || said(schema.Pick(got, selector+1)) != said(got) {
				t.Fatalf("%+v is not picked", got)
			}
		}
		n := schema.Points([]api.Def{{Body: c}, {}})
		same(t, i, n, pointsAgain(c))
		points += min(n, 1)
		_, err := schema.Merge(c, nil)
		same(t, i, err == api.ErrArg, n > 0)
		_, err = schema.Merge(api.Core{}, []api.Choice{on(1, c)})
		same(t, i, err == api.ErrArg, n > 0)
	}
	if points < 1000 || points > 2900 {
		t.Error(points)
	}
}

// What is handed in is neither changed nor kept, and no two lists of what is answered share memory.

func TestNewMemory(t *testing.T) {
	params := append(make([]string, 0, 9), "#0", "#1")
	shared := append(make([]api.Core, 0, 9), v("#0"), lam(v("#0"), params...))
	body := api.Core{Kind: api.CApp, Args: shared}
	body = lam(choice(body, ofCon(body, "A", 0, params...), ofCon(body, "B", 0, params...), ofAny(let(body, bind("#0", body)))), params...)
	body.Picks = []api.Choice{on(1, lam(body, params...))}
	other := copied(body)
	other.Args[0].Alts[1].Body.Args[0] = lam(v("#1"), params...)
	l := append(make([]api.Choice, 0, 9), on(1, lam(body, params...)), on(2, other), on(3, body), on(5, lam(choice(body), params...)))
	was := fmt.Sprint(body, l)
	m, err := schema.Merge(body, l)
	same(t, "error", err, api.OK)
	if match.Size(m) < 50 {
		t.Error(m)
	}
	many := append(make([]api.Core, 0, 9), m, m)
	made := []api.Core{m}
	for selector := range 7 {
		made = append(made, schema.Pick(app(m, m), selector))
		for _, d := range schema.Choose([]api.Def{def("f", m), def("g", api.Core{Kind: api.CApp, Args: many})}, selector) {
			made = append(made, d.Body)
		}
	}
	same(t, "changed", fmt.Sprint(body, l), was)
	want := fmt.Sprint(made)
	spoil(&body)
	for i := range l {
		spoil(&l[i].Body)
		l[i] = api.Choice{}
	}
	for i := range params[:cap(params)] {
		params[:cap(params)][i] = "spoilt"
	}
	same(t, "kept", fmt.Sprint(made), want)
	seen := map[any]int{}
	for i := range made {
		own(t, seen, &made[i])
	}
	if len(seen) < 500 {
		t.Error(len(seen))
	}
}

// spoil changes all that is in an expression.
func spoil(c *api.Core) {
	for i := range c.Params {
		c.Params[i] = "spoilt"
	}
	for _, p := range parts(*c) {
		spoil(p)
	}
	for i := range c.Alts {
		c.Alts[i].Name = "spoilt"
	}
	for i := range c.Picks {
		spoil(&c.Picks[i].Body)
		c.Picks[i].Select = 99
	}
	c.Kind, c.Name = 99, "spoilt"
}

// list notes a list's memory, also that behind it.
func list[T any](t *testing.T, seen map[any]int, l []T) {
	t.Helper()
	l = l[:cap(l)]
	for i := range l {
		if seen[&l[i]]++; seen[&l[i]] > 1 {
			t.Fatal("memory is shared")
		}
	}
}

func own(t *testing.T, seen map[any]int, c *api.Core) {
	t.Helper()
	list(t, seen, c.Params)
	list(t, seen, c.Args)
	list(t, seen, c.Alts)
	list(t, seen, c.Binds)
	list(t, seen, c.Picks)
	for i := range c.Alts {
		list(t, seen, c.Alts[i].Params)
	}
	for _, p := range parts(*c) {
		own(t, seen, p)
	}
	for i := range c.Picks {
		own(t, seen, &c.Picks[i].Body)
	}
}
