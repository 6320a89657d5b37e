package lift_test

import (
	"fmt"
	"math"
	"slices"
	"strings"
	"testing"

	"changeling/api"
	"changeling/lift"
	"changeling/num"
)

// What may be, what is flat and what is free, by the chapters' words done once more.

// place is where an expression stands: the names that are bound there, and whether it is asked at once.
type place struct {
	c     *api.Core
	bound []string
	once  bool
}

// places are an expression's and those of all expressions in it, in order.
func places(c *api.Core, bound []string, once bool) []place {
	l := []place{{c, bound, once}}
	own := c.Params
	if c.Kind == api.CLet {
		own = nil
		for _, b := range c.Binds {
			own = append(own, b.Name)
		}
	}
	l[0].bound = slices.Concat(bound, own)
	in := func(part *api.Core, more []string, kinds ...int) {
		l = append(l, places(part, slices.Concat(bound, own, more), once && slices.Contains(kinds, c.Kind))...)
	}
	for i := range c.Args {
		in(&c.Args[i], nil, api.CCase, api.CPrim, api.CLet, api.CPick)
	}
	for i := range c.Alts {
		in(&c.Alts[i].Body, c.Alts[i].Params, api.CCase)
	}
	for i := range c.Binds {
		in(&c.Binds[i].Body, nil)
	}
	for i := range c.Picks {
		in(&c.Picks[i].Body, nil, api.CPick)
	}
	return l
}

func freeAgain(c api.Core) []string {
	var l []string
	for _, p := range places(&c, nil, true) {
		if p.c.Kind == api.CVar && !slices.Contains(p.bound, p.c.Name) && !slices.Contains(l, p.c.Name) {
			l = append(l, p.c.Name)
		}
	}
	return l
}

// numberAgain is the number whose text ends a name behind a #, if one does, and what stands ahead of that.
func numberAgain(name string) (string, int64, bool) {
	ahead, digits, ok := strings.Cut(name, "#")
	for strings.Contains(digits, "#") {
		var more string
		more, digits, _ = strings.Cut(digits, "#")
		ahead += "#" + more
	}
	n := int64(0)
	if _, err := fmt.Sscanf(digits, "%d", &n); err != nil || !ok {
		return "", 0, false
	}
	return ahead, n, fmt.Sprint(n) == digits
}

func localsAgain(l []string) bool {
	for i, name := range l {
		ahead, n, ok := numberAgain(name)
		if !ok || ahead != "" || n < 0 || slices.Contains(l[:i], name) {
			return false
		}
	}
	return true
}

// outside is an expression without its parts.
func outside(c api.Core) string {
	return fmt.Sprintf("%d %q %d %d %d %d %d %d %d", c.Kind, c.Name, c.N, c.Arity, len(c.Params), len(c.Args), len(c.Alts), len(c.Binds), len(c.Picks))
}

// oneRight tells whether an expression may be, as far as it is no matter of its parts.
func oneRight(p place, globs []string) bool {
	c := *p.c
	is := api.Core{Kind: c.Kind}
	args, ok := 0, true
	switch c.Kind {
	case api.CVar:
		is.Name = c.Name
		ok = localsAgain([]string{c.Name}) && slices.Contains(p.bound, c.Name)
	case api.CGlob:
		is.Name = c.Name
		ok = slices.Contains(globs, c.Name)
	case api.CInt:
		is.N = c.N
	case api.CCon:
		is.Name, is.N, is.Arity = c.Name, c.N, c.Arity
		ok = c.Name != "" && c.N >= 0 && c.Arity >= 0
	case api.CApp:
		args = 2
	case api.CPrim:
		is.N, args = c.N, 2
		ok = c.N >= 1 && c.N <= 11
	case api.CFail:
	case api.CLam:
		is.Params, args = c.Params, 1
		ok = len(c.Params) > 0 && localsAgain(c.Params)
	case api.CLet:
		is.Binds, args = c.Binds, 1
		var names []string
		for _, b := range c.Binds {
			names = append(names, b.Name)
		}
		ok = len(c.Binds) > 0 && localsAgain(names)
	case api.CCase:
		is.Alts, args = c.Alts, 1
		ok = altsAgain(c.Alts)
	case api.CPick:
		is.Picks, args = c.Picks, 1
		for i, a := range c.Picks {
			for _, b := range c.Picks[:i] {
				ok = ok && a.Select != b.Select
			}
		}
	default:
		ok = false
	}
	is.Args = make([]api.Core, args)
	return ok && outside(is) == outside(c)
}

func altsAgain(l []api.CAlt) bool {
	var asked []string
	for i, a := range l {
		is := api.CAlt{Kind: a.Kind}
		ok := true
		switch a.Kind {
		case api.ACon:
			is.Name, is.N, is.Params = a.Name, a.N, a.Params
			ok = a.Name != "" && a.N >= 0 && localsAgain(a.Params)
			asked = append(asked, "con "+a.Name)
		case api.AInt:
			is.N = a.N
			asked = append(asked, fmt.Sprint("int ", a.N))
			ok = l[len(l)-1].Kind == api.AAny
		case api.AAny:
			ok = i == len(l)-1
		default:
			return false
		}
		if !ok || is.Name != a.Name || is.N != a.N || len(is.Params) != len(a.Params) {
			return false
		}
	}
	slices.Sort(asked)
	return len(l) > 0 && (len(asked) == 0 || asked[0][:3] == asked[len(asked)-1][:3]) && len(slices.Compact(asked)) == len(asked)
}

// globsAgain are the names that a CGlob may have, if definitions may have theirs.
func globsAgain(names []string) ([]string, bool) {
	ok := true
	for i, name := range names {
		ok = ok && name != "" && num.Op(name) == 0 && !slices.Contains(names[:i], name)
	}
	for op := 1; op <= 11; op++ {
		names = append(names, num.Name(op))
	}
	return names, ok
}

func rightAgain(l []api.Def) bool {
	var names []string
	ok := true
	for _, d := range l {
		names = append(names, d.Name)
		_, _, made := numberAgain(d.Name)
		ok = ok && !made
	}
	globs, may := globsAgain(names)
	for _, d := range l {
		for _, p := range places(&d.Body, nil, true) {
			ok = ok && oneRight(p, globs)
		}
	}
	return ok && may
}

func flatAgain(l []api.Super) bool {
	var names []string
	for _, s := range l {
		names = append(names, s.Name)
	}
	globs, ok := globsAgain(names)
	for _, s := range l {
		ok = ok && localsAgain(s.Params)
		for _, p := range places(&s.Body, s.Params, true) {
			ok = ok && oneRight(p, globs) && p.c.Kind != api.CLam && (p.once || p.c.Kind != api.CCase && p.c.Kind != api.CPick && p.c.Kind != api.CFail)
		}
	}
	return ok
}

func TestNamesAgain(t *testing.T) {
	const bytes = "#-0190a+"
	names := []string{""}
	for i := 0; i < len(names); i++ {
		if name := names[i]; len(name) < 5 {
			for _, b := range bytes {
				names = append(names, name+string(b))
			}
		}
	}
	for _, name := range append(names, "#9223372036854775807", "#9223372036854775808", "#-9223372036854775808", "#-9223372036854775809", "#99999999999999999999") {
		_, _, made := numberAgain(name)
		same(t, name, lift.Right([]api.Def{def(name, fail())}), name != "" && num.Op(name) == 0 && !made)
		same(t, name, lift.Right([]api.Def{def("f", lam(v(name), name))}), localsAgain([]string{name}))
	}
}

// change changes something in an expression, wherever.
func (m *making) change(c *api.Core) string {
	l := places(c, nil, true)
	at := l[m.pick(len(l))].c
	other := copied(*l[m.pick(len(l))].c)
	names := []string{"#0", "#1", "#2", "#7", "x", "", "#-1", "#01", "f0", "f1", "+", "C"}
	name := names[m.pick(len(names))]
	n := []int64{-1, 0, 1, 2, 3, 12, math.MinInt64, math.MaxInt64}[m.pick(8)]
	i := m.pick(1 << 10)
	switch k := m.pick(26); k {
	case 0, 1:
		at.Kind = m.pick(13)
	case 2, 3:
		at.Name = name
	case 4:
		at.N = n
	case 5:
		at.Arity = int(n)
	case 6:
		at.Params = append(slices.Clone(at.Params), name)
	case 7:
		at.Params = cut(at.Params, i)
	case 8:
		at.Args = append(slices.Clone(at.Args), other)
	case 9:
		at.Args = cut(at.Args, i)
	case 10:
		at.Alts = append(slices.Clone(at.Alts), api.CAlt{Kind: 1 + m.pick(3), Name: []string{"", "A", "C"}[m.pick(3)], N: n, Body: other})
	case 11:
		at.Alts = cut(at.Alts, i)
	case 12:
		at.Binds = append(slices.Clone(at.Binds), bind(name, other))
	case 13:
		at.Binds = cut(at.Binds, i)
	case 14:
		at.Picks = append(slices.Clone(at.Picks), on(m.pick(4), other))
	case 15:
		at.Picks = cut(at.Picks, i)
	case 16, 17:
		*at = other
	case 18:
		*at = []api.Core{fail(), lam(other, name), lam(other, "#3"), pick(other), v(name), glob(name), {}}[m.pick(7)]
	case 19:
		return m.changeAlt(at, i, func(a *api.CAlt) { a.Kind = m.pick(5) })
	case 20:
		return m.changeAlt(at, i, func(a *api.CAlt) { a.Name = []string{"", "A", "C", "N", "True"}[m.pick(5)] })
	case 21:
		return m.changeAlt(at, i, func(a *api.CAlt) { a.N = n })
	case 22:
		return m.changeAlt(at, i, func(a *api.CAlt) { a.Params = append(slices.Clone(a.Params), name) })
	case 23:
		return m.changeAlt(at, i, func(a *api.CAlt) { a.Params = cut(a.Params, 0) })
	case 24:
		if len(at.Binds) > 0 {
			at.Binds = slices.Clone(at.Binds)
			at.Binds[i%len(at.Binds)].Name = name
		}
	case 25:
		if len(at.Picks) > 0 {
			at.Picks = slices.Clone(at.Picks)
			at.Picks[i%len(at.Picks)].Select = m.pick(3)
		}
	}
	return name
}

func (m *making) changeAlt(c *api.Core, i int, change func(*api.CAlt)) string {
	if len(c.Alts) > 0 {
		c.Alts = slices.Clone(c.Alts)
		change(&c.Alts[i%len(c.Alts)])
	}
	return ""
}

// cut is a list without one of its elements, if it has any.
func cut[T any](l []T, i int) []T {
	if len(l) == 0 {
		return nil
	}
	i %= len(l)
	return slices.Delete(slices.Clone(l), i, i+1)
}

// copied is an expression that shares nothing with another one.
func copied(c api.Core) api.Core {
	c.Params = slices.Clone(c.Params)
	c = turned(c, copied)
	for i, a := range c.Alts {
		c.Alts[i].Params = slices.Clone(a.Params)
	}
	return c
}

func TestChangedAgain(t *testing.T) {
	t.Parallel()
	m := &making{chain: 7}
	right, flat, free := map[bool]int{}, map[bool]int{}, 0
	for i := range 20000 {
		l := m.defs(1+i%2, 1+i%3)
		if !rightAgain(l) || !lift.Right(l) {
			t.Fatal(defTexts(l))
		}
		supers := lifted(t, l)
		if !flatAgain(supers) {
			t.Fatal(texts(supers))
		}
		d := &l[m.pick(len(l))]
		d.Body = copied(d.Body)
		for range 1 + m.pick(2) {
			m.change(&d.Body)
		}
		want := rightAgain(l)
		right[want]++
		s, err := lift.Lift(l)
		if lift.Right(l) != want || (err == api.OK) != want || (err == api.ErrArg) == want || !want && len(s) > 0 || lift.Flat(s) != flatAgain(s) {
			t.Fatal(want, defTexts(l), l)
		}
		for _, p := range places(&d.Body, nil, true) {
			f := lift.Free(*p.c)
			free += len(f)
			if !slices.Equal(f, freeAgain(*p.c)) {
				t.Fatal(f, freeAgain(*p.c), *p.c)
			}
		}
		one := &supers[m.pick(len(supers))]
		one.Body = copied(one.Body)
		switch m.pick(8) {
		case 0:
			one.Name = []string{"", "f0", "f1", "*", "f0#1", "#", "f0#2"}[m.pick(7)]
		case 1:
			one.Params = append(one.Params, []string{"#0", "#1", "#2", "#3", "x", "#-1"}[m.pick(6)])
		case 2:
			one.Params = cut(one.Params, m.pick(9))
		default:
			m.change(&one.Body)
		}
		want = flatAgain(supers)
		flat[want]++
		if lift.Flat(supers) != want {
			t.Fatal(want, texts(supers), supers)
		}
	}
	if min(right[true], right[false], flat[true], flat[false]) < 5000 || free < 40000 {
		t.Error(right, flat, free)
	}
}
