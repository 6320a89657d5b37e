package code_test

import (
	"fmt"
	"maps"
	"slices"
	"testing"

	"changeling/api"
	"changeling/code"
	"changeling/decl"
	"changeling/lift"
	"changeling/match"
	"changeling/num"
	"changeling/parse"
)

// The codes by the chapter's words done once more: rows in which places have names, until the row is whole.

// word is an instruction whose K and Jumps may be names of places; or (without an instruction) such a name of the place where it stands.
type word struct {
	i    api.Instr
	k    string
	to   []string // of the Jumps
	here string
}

type words []word

func cat(l ...words) words { return slices.Concat(l...) }

func plain(op int) words { return words{{i: api.Instr{Op: op}}} }

func withK(op, k int) words { return words{{i: api.Instr{Op: op, K: k}}} }

func withN(op int, n int64) words { return words{{i: api.Instr{Op: op, N: n}}} }

func goTo(name string) words { return words{{i: api.Instr{Op: api.IJump}, k: name}} }

func here(name string) words { return words{{here: name}} }

// whole is a row in which each place has its number.
func (w words) whole() []api.Instr {
	places, n := map[string]int{}, 0
	for _, x := range w {
		if x.here != "" {
			places[x.here] = n
		} else {
			n++
		}
	}
	at := func(name string) int {
		place, ok := places[name]
		if !ok {
			panic("no place " + name)
		}
		return place
	}
	var l []api.Instr
	for _, x := range w {
		if x.here != "" {
			continue
		}
		i := x.i
		if x.k != "" {
			i.K = at(x.k)
		}
		i.Jumps = slices.Clone(i.Jumps)
		for n, name := range x.to {
			i.Jumps[n].To = at(name)
		}
		l = append(l, i)
	}
	return l
}

// again makes codes once more.
type again struct {
	supers, cons []string
	made         int // how many names of places
}

func newAgain(l []api.Super, cons []api.Con) *again {
	a := &again{}
	for _, s := range l {
		a.supers = append(a.supers, s.Name)
	}
	for _, c := range cons {
		a.cons = append(a.cons, c.Name)
	}
	return a
}

func (a *again) name(s string) string {
	a.made++
	return fmt.Sprint(s, a.made)
}

func (a *again) number(name string) int {
	if op := num.Op(name); op > 0 {
		return len(a.supers) + len(a.cons) + op - 1
	}
	return slices.Index(a.supers, name)
}

func (a *again) place(con string) int { return slices.Index(a.cons, con) }

type levels map[string]int

func (l levels) more(names []string, level func(i int) int) levels {
	l = maps.Clone(l)
	for i, name := range names {
		l[name] = level(i)
	}
	return l
}

func (a *again) later(e api.Core, d int, l levels) words {
	switch e.Kind {
	case api.CVar:
		return withK(api.IPush, d-1-l[e.Name])
	case api.CGlob:
		return withK(api.IGlob, a.number(e.Name))
	case api.CCon:
		return withK(api.IGlob, len(a.supers)+a.place(e.Name))
	case api.CInt:
		return withN(api.IInt, e.N)
	case api.CApp:
		return cat(a.later(e.Args[1], d, l), a.later(e.Args[0], d+1, l), plain(api.IApply))
	case api.CPrim:
		return cat(a.later(e.Args[1], d, l), a.later(e.Args[0], d+1, l), withK(api.IGlob, len(a.supers)+len(a.cons)+int(e.N)-1), plain(api.IApply), plain(api.IApply))
	case api.CLet:
		binds, inner := a.bindings(e.Binds, d, l)
		return cat(binds, a.later(e.Args[0], d+len(e.Binds), inner), withK(api.ISlide, len(e.Binds)))
	}
	panic("asked later")
}

func (a *again) bindings(l []api.CBind, d int, around levels) (words, levels) {
	var names []string
	for _, b := range l {
		names = append(names, b.Name)
	}
	n := len(l)
	inner := around.more(names, func(i int) int { return d + i })
	w := withK(api.IAlloc, n)
	for i, b := range l {
		w = cat(w, a.later(b.Body, d+n, inner), withK(api.IUpdate, n-1-i))
	}
	return w, inner
}

func (a *again) now(e api.Core, d int, l levels) words {
	switch e.Kind {
	case api.CInt:
		return withN(api.IInt, e.N)
	case api.CPrim:
		return cat(a.now(e.Args[0], d, l), a.now(e.Args[1], d+1, l), withN(api.IPrim, e.N))
	case api.CLet:
		binds, inner := a.bindings(e.Binds, d, l)
		return cat(binds, a.now(e.Args[0], d+len(e.Binds), inner), withK(api.ISlide, len(e.Binds)))
	case api.CCase, api.CPick:
		behind := a.name("behind")
		return cat(a.choice(e, d, l, a.now, func(slide words) words { return cat(slide, goTo(behind)) }), here(behind))
	case api.CFail:
		return plain(api.IFail)
	}
	return cat(a.later(e, d, l), plain(api.IEval))
}

// choice is a case or a pick: what stands in it is done, and then what is to stand behind that.
func (a *again) choice(e api.Core, d int, l levels, do func(api.Core, int, levels) words, then func(slide words) words) words {
	if e.Kind == api.CPick {
		args := a.name("args")
		first := word{i: api.Instr{Op: api.IPick}, k: args}
		w := cat(here(args), do(e.Args[0], d, l), then(nil))
		for _, p := range e.Picks {
			name := a.name("pick")
			first.i.Jumps = append(first.i.Jumps, api.Jump{Key: int64(p.Select)})
			first.to = append(first.to, name)
			w = cat(w, here(name), do(p.Body, d, l), then(nil))
		}
		return cat(words{first}, w)
	}
	first := word{i: api.Instr{Op: api.ICase, K: -1}}
	var w words
	for _, alt := range e.Alts {
		name := a.name("alt")
		w = cat(w, here(name))
		if alt.Kind == api.ACon {
			n := len(alt.Params)
			first.i.Jumps = append(first.i.Jumps, api.Jump{Key: int64(a.place(alt.Name))})
			first.to = append(first.to, name)
			inner := l.more(alt.Params, func(j int) int { return d + n - 1 - j })
			w = cat(w, withK(api.ISplit, n), do(alt.Body, d+n, inner), then(withK(api.ISlide, n)))
			continue
		}
		if alt.Kind == api.AInt {
			first.i.Jumps = append(first.i.Jumps, api.Jump{Key: alt.N})
			first.to = append(first.to, name)
		} else {
			first.k = name
		}
		w = cat(w, withK(api.IPop, 1), do(alt.Body, d, l), then(nil))
	}
	return cat(a.now(e.Args[0], d, l), words{first}, w)
}

func theEnd(d int) words { return cat(withK(api.IUpdate, d), withK(api.IPop, d), plain(api.IUnwind)) }

func (a *again) end(e api.Core, d int, l levels) words {
	switch e.Kind {
	case api.CPrim:
		return cat(a.now(e, d, l), theEnd(d))
	case api.CLet:
		binds, inner := a.bindings(e.Binds, d, l)
		return cat(binds, a.end(e.Args[0], d+len(e.Binds), inner))
	case api.CCase, api.CPick:
		return a.choice(e, d, l, a.end, func(words) words { return nil })
	case api.CFail:
		return plain(api.IFail)
	}
	return cat(a.later(e, d, l), theEnd(d))
}

func codesAgain(l []api.Super, cons []api.Con) []api.Code {
	a := newAgain(l, cons)
	var all []api.Code
	for _, s := range l {
		n := len(s.Params)
		all = append(all, api.Code{Name: s.Name, Arity: n, Ops: a.end(s.Body, n, levels{}.more(s.Params, func(i int) int { return n - 1 - i })).whole()})
	}
	for i, c := range cons {
		pack := words{{i: api.Instr{Op: api.IPack, N: int64(i), K: len(c.Fields)}}}
		all = append(all, api.Code{Name: c.Name, Arity: len(c.Fields), Con: true, Ops: cat(pack, theEnd(0)).whole()})
	}
	for op := 1; op <= 11; op++ {
		w := cat(withK(api.IPush, 0), plain(api.IEval), withK(api.IPush, 2), plain(api.IEval), withN(api.IPrim, int64(op)), theEnd(2))
		all = append(all, api.Code{Name: num.Name(op), Arity: 2, Ops: w.whole()})
	}
	return all
}

func startAgain(e api.Core, l []api.Super, cons []api.Con) []api.Instr {
	again := words{{i: api.Instr{Op: api.IAgain}, k: "s"}}
	return cat(newAgain(l, cons).later(e, 0, levels{}), here("s"), plain(api.IEval), plain(api.IForce), again).whole()
}

// inside are an expression and all those in it.
func inside(c *api.Core) []*api.Core {
	l := []*api.Core{c}
	for i := range c.Args {
		l = append(l, inside(&c.Args[i])...)
	}
	for i := range c.Alts {
		l = append(l, inside(&c.Alts[i].Body)...)
	}
	for i := range c.Binds {
		l = append(l, inside(&c.Binds[i].Body)...)
	}
	for i := range c.Picks {
		l = append(l, inside(&c.Picks[i].Body)...)
	}
	return l
}

// knownAgain tells whether an expression's constructors are there, with as many Fields.
func knownAgain(c api.Core, cons []api.Con) bool {
	has := func(name string, fields int) bool {
		return slices.ContainsFunc(cons, func(c api.Con) bool { return c.Name == name && len(c.Fields) == fields })
	}
	for _, e := range inside(&c) {
		if e.Kind == api.CCon && !has(e.Name, e.Arity) {
			return false
		}
		for _, a := range e.Alts {
			if a.Kind == api.ACon && !has(a.Name, len(a.Params)) {
				return false
			}
		}
	}
	return true
}

func mayAgain(l []api.Super, cons []api.Con) bool {
	ok, truths := lift.Flat(l), 0
	for i, c := range cons {
		ok = ok && c.Name != ""
		for _, ahead := range cons[:i] {
			ok = ok && ahead.Name != c.Name
		}
		if c.Name == "False" || c.Name == "True" {
			ok = ok && len(c.Fields) == 0
			truths++
		}
	}
	for _, s := range l {
		ok = ok && knownAgain(s.Body, cons)
	}
	return ok && truths == 2
}

// mayStartAgain tells it of an expression, beside what may be compiled.
func mayStartAgain(e api.Core, l []api.Super, cons []api.Con) bool {
	if !knownAgain(e, cons) || len(lift.Free(e)) > 0 {
		return false
	}
	const name = "a name that no other one has"
	for _, c := range inside(&e) {
		if c.Kind == api.CLam || c.Kind == api.CCase || c.Kind == api.CPick || c.Kind == api.CFail || c.Kind == api.CGlob && c.Name == name {
			return false
		}
	}
	return lift.Flat(append(slices.Clone(l), super(name, e)))
}

// held tells whether what is answered is as by the words done once more: it is refused, or not.
func held(t *testing.T, e api.Core, l []api.Super, cons []api.Con) (bool, bool) {
	t.Helper()
	may := mayAgain(l, cons)
	start := may && mayStartAgain(e, l, cons)
	if !may {
		refused(t, l, l, cons)
		notBegun(t, l, e, l, cons)
		return may, start
	}
	if got, want := codesText(compiled(t, l, cons)), codesText(codesAgain(l, cons)); got != want {
		t.Fatalf("%s\n\nnot\n%s", got, want)
	}
	if !start {
		notBegun(t, e, e, l, cons)
		return may, start
	}
	if got, want := lines(begun(t, e, l, cons).Ops), lines(startAgain(e, l, cons)); got != want {
		t.Fatalf("%s, not %s", got, want)
	}
	return may, start
}

// chain makes choices, always the same.
type chain uint32

func (c *chain) pick(n int) int {
	*c = *c*1664525 + 1013904223
	return int(*c>>16) % n
}

func oneOf[T any](m *making, l ...T) T { return l[m.pick(len(l))] }

// making makes supercombinators and constructors; what they mean is no matter.
type making struct {
	chain
	globs []string
	cons  []api.Con
}

func (m *making) locals(n int) []string {
	var l []string
	for len(l) < n {
		if name := fmt.Sprint("#", m.pick(7)); !slices.Contains(l, name) {
			l = append(l, name)
		}
	}
	return l
}

func (m *making) con() api.Core {
	c := m.cons[m.pick(len(m.cons))]
	return api.Core{Kind: api.CCon, Name: c.Name, N: int64(c.Tag), Arity: len(c.Fields)}
}

func (m *making) number() int64 { return oneOf[int64](m, 0, 1, 2, 3, -1, -7, 1<<63-1, -1<<63) }

func (m *making) leaf(names []string) api.Core {
	switch k := m.pick(8); {
	case k < 4 && len(names) > 0:
		return v(oneOf(m, names...))
	case k < 2:
		return m.con()
	case k < 5:
		return glob(oneOf(m, m.globs...))
	case k == 5:
		return m.con()
	}
	return integer(m.number())
}

// later makes what may be asked later, once a while at least with so many parts in one another.
func (m *making) later(depth int, names []string) api.Core {
	if depth > 0 {
		switch m.pick(6) {
		case 0, 1:
			return app(m.later(depth-1, names), m.later(depth-1, names))
		case 2:
			return prim(num.Name(1+m.pick(11)), m.later(depth-1, names), m.later(depth-1, names))
		case 3:
			return m.let(depth, names, m.later)
		}
	}
	return m.leaf(names)
}

func (m *making) let(depth int, names []string, in func(int, []string) api.Core) api.Core {
	more := m.locals(1 + m.pick(3))
	inner := append(slices.Clone(names), more...)
	c := let(in(depth-1, inner))
	for _, name := range more {
		c.Binds = append(c.Binds, bind(name, m.later(depth-1, inner)))
	}
	return c
}

// now makes what may be asked at once.
func (m *making) now(depth int, names []string) api.Core {
	if depth > 0 {
		switch m.pick(9) {
		case 0, 1:
			return prim(num.Name(1+m.pick(11)), m.now(depth-1, names), m.now(depth-1, names))
		case 2, 3:
			return m.let(depth, names, m.now)
		case 4, 5, 6:
			return m.choice(depth, names)
		case 7:
			c := pick(m.now(depth-1, names))
			for i := range m.pick(4) {
				c.Picks = append(c.Picks, on(2*i-3+m.pick(2), m.now(depth-1, names)))
			}
			return c
		}
	}
	if m.pick(9) == 0 {
		return fail()
	}
	return m.later(min(depth, 2), names)
}

func (m *making) choice(depth int, names []string) api.Core {
	c := choice(m.now(depth-1, names))
	if m.pick(2) == 0 {
		for i := range m.pick(3) {
			c.Alts = append(c.Alts, ofInt(int64(3*i-2+m.pick(3)), m.now(depth-1, names)))
		}
		c.Alts = append(c.Alts, ofAny(m.now(depth-1, names)))
		return c
	}
	at := m.pick(len(m.cons))
	for i := range 1 + m.pick(min(3, len(m.cons))) {
		known := m.cons[(at+i)%len(m.cons)]
		params := m.locals(len(known.Fields))
		body := m.now(depth-1, append(slices.Clone(names), params...))
		c.Alts = append(c.Alts, api.CAlt{Kind: api.ACon, Name: known.Name, N: int64(known.Tag), Params: params, Body: body})
	}
	if m.pick(2) == 0 {
		c.Alts = append(c.Alts, ofAny(m.now(depth-1, names)))
	}
	return c
}

func (m *making) constructors() {
	m.cons = nil
	for i, name := range []string{"A", "B", "f0", "C", "<", "f1#1"} {
		if m.pick(2) == 0 {
			m.cons = append(m.cons, api.Con{Name: name, Data: "D", Tag: i, Fields: slices.Repeat([]api.Type{param}, m.pick(5))})
		}
	}
	for i, name := range []string{"False", "True"} {
		m.cons = slices.Insert(m.cons, m.pick(len(m.cons)+1), api.Con{Name: name, Data: "Bool", Tag: i})
	}
}

func (m *making) supers(depth int) []api.Super {
	m.constructors()
	names := []string{"f0", "f0#1", "f1", "True", "#", "f1#"}
	names = slices.DeleteFunc(names, func(string) bool { return m.pick(2) == 0 })
	m.globs = append(slices.Clone(names), num.Name(1+m.pick(11)), num.Name(1+m.pick(11)))
	var l []api.Super
	for _, name := range names {
		params := m.locals(m.pick(5))
		l = append(l, super(name, m.now(depth, params), params...))
	}
	return l
}

// copied is an expression that shares nothing with another one.
func copied(c api.Core) api.Core {
	c.Params, c.Args, c.Alts, c.Binds, c.Picks = slices.Clone(c.Params), slices.Clone(c.Args), slices.Clone(c.Alts), slices.Clone(c.Binds), slices.Clone(c.Picks)
	for i := range c.Args {
		c.Args[i] = copied(c.Args[i])
	}
	for i := range c.Alts {
		c.Alts[i].Params = slices.Clone(c.Alts[i].Params)
		c.Alts[i].Body = copied(c.Alts[i].Body)
	}
	for i := range c.Binds {
		c.Binds[i].Body = copied(c.Binds[i].Body)
	}
	for i := range c.Picks {
		c.Picks[i].Body = copied(c.Picks[i].Body)
	}
	return c
}

// change changes something in an expression, wherever.
func (m *making) change(c *api.Core) {
	l := inside(c)
	at, other := oneOf(m, l...), copied(*oneOf(m, l...))
	if len(at.Alts) > 0 && m.pick(2) == 0 {
		a := &at.Alts[m.pick(len(at.Alts))]
		switch m.pick(4) {
		case 0:
			a.Name = oneOf(m, "A", "B", "C", "True", "f0", "")
		case 1:
			a.Params = append(a.Params, oneOf(m, "#0", "#6", "#9"))
		case 2:
			a.Params = a.Params[:max(0, len(a.Params)-1)]
		case 3:
			a.Kind = 1 + m.pick(3)
		}
		return
	}
	switch m.pick(8) {
	case 0:
		at.Name = oneOf(m, "A", "B", "C", "True", "f0", "f1", "#", "#1", "#0", "<", "f0#")
	case 1:
		at.Arity += oneOf(m, -1, 1)
	case 2:
		at.Kind = oneOf(m, api.CVar, api.CGlob, api.CCon, api.CInt, api.CApp, api.CPrim)
	case 3:
		*at = oneOf(m, fail(), pick(other), choice(other, ofAny(other)), lam(other, "#0"), lam(integer(1), "#7"))
	case 4, 5:
		*at = other
	case 6:
		*at = oneOf(m, v("#0"), v("#9"), glob("f0"), glob("f1#"), glob("##"), glob("f1##"), glob("a name that no other one has"), api.Core{Kind: api.CCon, Name: "A"}, con("True"))
	case 7:
		at.N = oneOf[int64](m, 0, 1, 11, 12)
	}
}

func (m *making) changeCons() {
	i := m.pick(len(m.cons))
	c := &m.cons[i]
	switch m.pick(6) {
	case 0:
		m.cons = slices.Delete(m.cons, i, i+1)
	case 1:
		c.Name = oneOf(m, "", "A", "False", "True", "Z")
	case 2:
		c.Fields = append(slices.Clone(c.Fields), param)
	case 3:
		c.Fields = c.Fields[:max(0, len(c.Fields)-1)]
	case 4:
		m.cons = append(m.cons, *c)
	case 5:
		m.cons = append(m.cons, api.Con{Name: oneOf(m, "B", "Z", "", "True")})
	}
}

func TestMadeAgain(t *testing.T) {
	t.Parallel()
	m := &making{chain: 1}
	ops := map[int]int{}
	for i := range 2000 {
		l := m.supers(i % 7)
		if may, start := held(t, m.later(3, nil), l, m.cons); !may || !start {
			t.Fatal(l, m.cons)
		}
		codes := compiled(t, l, m.cons)
		for _, c := range codes {
			for _, i := range c.Ops {
				ops[i.Op]++
			}
		}
		alone(t, l, m.cons, codes)
	}
	for op := api.IPush; op <= api.IFail; op++ {
		if ops[op] < 1000 {
			t.Error(op, ops[op])
		}
	}
}

func TestChangedAgain(t *testing.T) {
	t.Parallel()
	m := &making{chain: 5}
	mayBe, starts := map[bool]int{}, map[bool]int{}
	for i := range 12000 {
		l := m.supers(i % 5)
		e := m.later(3, nil)
		switch k := m.pick(4); {
		case k == 0:
			m.changeCons()
		case k == 1:
			e = copied(e)
			m.change(&e)
		case len(l) > 0:
			s := &l[m.pick(len(l))]
			s.Body = copied(s.Body)
			m.change(&s.Body)
		}
		may, start := held(t, e, l, m.cons)
		mayBe[may]++
		if may {
			starts[start]++
		}
	}
	if min(mayBe[true], mayBe[false]) < 2000 || min(starts[true], starts[false]) < 1000 {
		t.Error(mayBe, starts)
	}
}

// P17.5: beside others, with the same numbers, and without them

// numberless is a code's text in which globals stand by their names.
func numberless(c api.Code, names []string, supers, cons int) string {
	ops := slices.Clone(c.Ops)
	var asked []string
	for i, o := range ops {
		if o.Op == api.IGlob {
			asked = append(asked, fmt.Sprint(names[o.K], o.K >= supers && o.K < supers+cons))
			ops[i].K = 0
		}
	}
	return fmt.Sprint(c.Name, c.Arity, asked, lines(ops))
}

// alone holds each supercombinator's code against that beside others of which nothing but their names is as it was, and against that without those for which it does not ask.
func alone(t *testing.T, l []api.Super, cons []api.Con, codes []api.Code) {
	t.Helper()
	names := code.Globals(l, cons)
	for i, s := range l {
		others := slices.Clone(l)
		for k := range others {
			if k != i {
				others[k].Body, others[k].Params = integer(int64(k)), nil
			}
		}
		if got, want := codeText(compiled(t, others, cons)[i]), codeText(codes[i]); got != want {
			t.Fatalf("%s, not %s", got, want)
		}
		var asked []string
		for _, e := range inside(&s.Body) {
			if e.Kind == api.CGlob {
				asked = append(asked, e.Name)
			}
		}
		fewer := slices.DeleteFunc(others, func(o api.Super) bool { return o.Name != s.Name && !slices.Contains(asked, o.Name) })
		slices.Reverse(fewer)
		at := slices.IndexFunc(fewer, func(o api.Super) bool { return o.Name == s.Name })
		got := numberless(compiled(t, fewer, cons)[at], code.Globals(fewer, cons), len(fewer), len(cons))
		if want := numberless(codes[i], names, len(l), len(cons)); got != want {
			t.Fatalf("%s, not %s", got, want)
		}
	}
}

// Programs out of sources

var sources = []string{
	"f x = x + 1",
	"f 0 = 1\nf n = n * f (n - 1)",
	"data L a = N | C a (L a)\nsum N = 0\nsum (C x l) = x + sum l\nmap f N = N\nmap f (C x l) = C (f x) (map f l)\nupto a b | a > b = N\n         | True = C a (upto (a + 1) b)\nmain = sum (map (\\x -> x * x) (upto 1 10))",
	"data L a = N | C a (L a)\nzip (C a l) (C b k) = C (a + b) (zip l k)\nzip l k = N\ntail (C x l) = l\nfibs = C 0 (C 1 (zip fibs (tail fibs)))",
	"data T a = Leaf | Node (T a) a (T a)\nadd x Leaf = Node Leaf x Leaf\nadd x (Node l y r) | x < y = Node (add x l) y r\n                   | x > y = Node l y (add x r)\n                   | True = Node l y r\ndepth Leaf = 0\ndepth (Node l x r) = let { a = depth l; b = depth r } in 1 + (if a > b then a else b)",
	"even 0 = True\neven n = odd (n - 1)\nodd 0 = False\nodd n = even (n - 1)",
	"f x y = case x of { 0 -> (case y of { 1 -> 2; z | z > x -> z }); 5 -> let { g a = a + h y; h b = if b == 0 then 1 else g (b - 1) } in g 3; w -> (\\u v -> u w v) (+) 4 }",
	"data P a b = P a b\nswap (P a b) = P b a\nboth f (P a b) = P (f a) (f b)\nk x y = x\ntwice = \\f x -> f (f x)\nmain = both (twice (k 3)) (swap (P 1 2))",
}

func TestSourcesAgain(t *testing.T) {
	t.Parallel()
	m := &making{chain: 9}
	for _, source := range sources {
		p, fault := parse.Program(source)
		same(t, source, fault, api.Fault{})
		defs, fault := match.Compile(p)
		same(t, source, fault, api.Fault{})
		table, fault := decl.New(p.Datas)
		same(t, source, fault, api.Fault{})
		for i := range 12 {
			if i > 0 {
				for k := range defs {
					defs[k].Body = copied(defs[k].Body)
					for _, c := range inside(&defs[k].Body) {
						if m.pick(16) == 0 {
							*c = pick(*c, on(i, *c), on(m.pick(i)-i, integer(int64(i))))
						}
					}
				}
			}
			supers, err := lift.Lift(defs)
			same(t, source, err, api.OK)
			e := glob(defs[m.pick(len(defs))].Name)
			if may, start := held(t, app(e, integer(1), con("True")), supers, table.All()); !may || !start {
				t.Fatal(source)
			}
			alone(t, supers, table.All(), compiled(t, supers, table.All()))
			if i%3 == 2 {
				defs, _ = match.Compile(p)
			}
		}
	}
}
