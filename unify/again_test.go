package unify_test

import (
	"fmt"
	"maps"
	"reflect"
	"slices"
	"testing"

	"changeling/api"
	"changeling/unify"
)

// The chapter's words once more: which variables are the same stands by their least ones, what these are as it was told; with an error all is as it was.

type known struct {
	least map[int]int      // of variables that are the same as lesser ones
	is    map[int]api.Type // of least ones, what they are
	next  int
}

func nothing() *known { return &known{least: map[int]int{}, is: map[int]api.Type{}} }

func (k *known) leastOf(n int) int {
	if l, ok := k.least[n]; ok {
		return l
	}
	return n
}

// taken is a type as it is known, itself.
func (k *known) taken(t api.Type) api.Type {
	if t.Kind != api.KVar {
		return t
	}
	n := k.leastOf(t.N)
	if is, ok := k.is[n]; ok {
		return is
	}
	return num(n)
}

// within tells whether a variable stands in a type, as it is known.
func (k *known) within(n int, t api.Type) bool {
	t = k.taken(t)
	return t.Kind == api.KVar && t.N == n || slices.ContainsFunc(t.Args, func(a api.Type) bool { return k.within(n, a) })
}

func (k *known) makeSame(a, b api.Type) api.Errno {
	a, b = k.taken(a), k.taken(b)
	switch {
	case a.Kind == api.KVar && b.Kind == api.KVar:
		if a.N != b.N {
			k.joined(min(a.N, b.N), max(a.N, b.N))
		}
		return api.OK
	case b.Kind == api.KVar:
		a, b = b, a
		fallthrough
	case a.Kind == api.KVar:
		if k.within(a.N, b) {
			return api.ErrCycle
		}
		k.is[a.N] = b
		return api.OK
	case a.Kind != b.Kind, a.Name != b.Name, len(a.Args) != len(b.Args):
		return api.ErrType
	}
	for i := range a.Args {
		if err := k.makeSame(a.Args[i], b.Args[i]); err != api.OK {
			return err
		}
	}
	return api.OK
}

func (k *known) joined(low, high int) {
	for n, l := range k.least {
		if l == high {
			k.least[n] = low
		}
	}
	k.least[high] = low
}

func (k *known) given(t api.Type) {
	for _, n := range unify.Vars(t) {
		k.next = max(k.next, n+1)
	}
}

func (k *known) Unify(a, b api.Type) api.Errno {
	k.given(a)
	k.given(b)
	least, is := maps.Clone(k.least), maps.Clone(k.is)
	err := k.makeSame(a, b)
	if err != api.OK {
		k.least, k.is = least, is
	}
	return err
}

func (k *known) Fresh() api.Type {
	k.next++
	return num(k.next - 1)
}

// size is a type's size as it is known, or one that is too great.
func (k *known) size(t api.Type) int {
	n := 1
	for _, a := range k.taken(t).Args {
		if n <= api.MaxType {
			n += k.size(a)
		}
	}
	return n
}

func (k *known) whole(t api.Type) api.Type {
	t = k.taken(t)
	all := api.Type{Kind: t.Kind, N: t.N, Name: t.Name}
	for _, a := range t.Args {
		all.Args = append(all.Args, k.whole(a))
	}
	return all
}

func (k *known) Resolve(t api.Type) (api.Type, api.Errno) {
	k.given(t)
	if k.size(t) > api.MaxType {
		return api.Type{}, api.ErrLarge
	}
	return k.whole(t), api.OK
}

func (k *known) Leaves(t api.Type) ([]int, api.Errno) {
	k.given(t)
	var l []int
	var look func(api.Type)
	look = func(t api.Type) {
		t = k.taken(t)
		if t.Kind == api.KVar && !slices.Contains(l, t.N) {
			l = append(l, t.N)
		}
		for _, a := range t.Args {
			look(a)
		}
	}
	look(t)
	return l, api.OK
}

// store is what either of them does.
type store interface {
	Fresh() api.Type
	Unify(a, b api.Type) api.Errno
	Resolve(t api.Type) (api.Type, api.Errno)
	Leaves(t api.Type) ([]int, api.Errno)
}

// chain makes choices, always the same.
type chain uint32

func (c *chain) pick(n int) int {
	*c = *c*1664525 + 1013904223
	return int(*c>>16) % n
}

// typ is a type of some variables; with few constructors, so that many are alike.
func (c *chain) typ(vars []int, depth int) api.Type {
	inner := func() api.Type { return c.typ(vars, c.pick(depth)) }
	switch n := c.pick(10); {
	case depth == 0 && len(vars) > 0 && n < 7:
		return num(vars[c.pick(len(vars))])
	case depth == 0:
		return con([]string{"A", "A", "B"}[c.pick(3)])
	case n < 5:
		return fun(inner(), inner())
	case n < 8:
		return con("L", inner())
	case n < 9:
		return con("L", inner(), inner())
	}
	return con("M", inner(), inner(), inner())
}

// some are so many variables, a great one now and then.
func (c *chain) some(n int) []int {
	var l []int
	for range n {
		l = append(l, c.pick(n+3))
	}
	if c.pick(8) == 0 {
		l = append(l, 1<<30-c.pick(2))
	}
	return l
}

// call is one call of a store, and what comes of it.
type call struct {
	kind int
	a, b api.Type
	got  []any
}

func (x *call) of(s store) {
	switch x.kind {
	case 0:
		x.got = []any{s.Fresh()}
	case 1:
		x.got = []any{s.Unify(x.a, x.b)}
	case 2:
		t, err := s.Resolve(x.a)
		x.got = []any{t, err}
	case 3:
		l, err := s.Leaves(x.a)
		x.got = []any{slices.Concat(l), err}
	}
}

// calls are some calls: mostly of Unify, with the others in between.
func (c *chain) calls() []call {
	vars := c.some(2 + c.pick(8))
	var l []call
	if c.pick(9) == 0 { // types of a size near the greatest
		for n := range 6 + c.pick(4) {
			l = append(l, call{kind: 1, a: num(n), b: fun(num(n+1), num(n+1))})
		}
		l = append(l, call{kind: 2, a: num(0)}, call{kind: 2, a: con("L", num(c.pick(9)), num(0))})
	}
	for range 1 + c.pick(12) {
		depth := c.pick(3)
		l = append(l, call{kind: 1, a: c.typ(vars, c.pick(3)), b: c.typ(vars, depth)})
		if c.pick(4) == 0 {
			l = append(l, call{})
		}
		if c.pick(3) == 0 {
			l = append(l, call{kind: 2 + c.pick(2), a: c.typ(append(vars, c.some(3)...), c.pick(4))})
		}
	}
	for _, n := range vars {
		l = append(l, call{kind: 2, a: num(n)}, call{kind: 3, a: num(n)})
	}
	return append(l, call{kind: 3, a: c.typ(vars, 4)}, call{})
}

// P10.1

func TestManyCalls(t *testing.T) {
	c := chain(1)
	count := map[string]int{}
	for range 40000 {
		s, k := unify.New(), nothing()
		for _, x := range c.calls() {
			y := x
			x.of(s)
			y.of(k)
			if !reflect.DeepEqual(x.got, y.got) {
				t.Fatalf("%d %s %s: %v, not %v", x.kind, written(x.a), written(x.b), x.got, y.got)
			}
			count[fmt.Sprint(x.kind, x.got[len(x.got)-1])]++
		}
	}
	for _, s := range []string{"1 0", "1 100", "1 101", "2 0", "2 102", "3 0"} {
		if count[s] < 500 {
			t.Error(s, count[s])
		}
	}
}

// P10.3, P10.5

func TestSidesAndTheSame(t *testing.T) {
	c := chain(2)
	for range 30000 {
		vars := c.some(2 + c.pick(6))
		one, other := unify.New(), unify.New()
		for range 1 + c.pick(8) {
			a, b := c.typ(vars, c.pick(3)), c.typ(vars, c.pick(3))
			err := one.Unify(a, b)
			same(t, other.Unify(b, a), err)
			if err != api.OK {
				continue
			}
			whole, err := one.Resolve(a)
			again, fault := one.Resolve(b)
			same(t, again, whole)
			same(t, fault, err)
			leaves, _ := one.Leaves(a)
			l, _ := one.Leaves(b)
			same(t, l, leaves)
			same(t, one.Unify(b, a), api.OK)
		}
		for _, n := range vars {
			a, err := one.Resolve(num(n))
			b, fault := other.Resolve(num(n))
			same(t, b, a)
			same(t, fault, err)
		}
		if t.Failed() {
			t.FailNow()
		}
	}
}

// told is a type with some variables told for parts that are what these are to be.
func (c *chain) told(t api.Type, vars []int, with []api.Type) api.Type {
	for range 3 {
		if i := c.pick(len(vars)); reflect.DeepEqual(with[i], t) {
			return num(vars[i])
		}
	}
	r := api.Type{Kind: t.Kind, N: t.N, Name: t.Name}
	for _, a := range t.Args {
		r.Args = append(r.Args, c.told(a, vars, with))
	}
	return r
}

// P10.4

func TestMostGeneral(t *testing.T) {
	c := chain(3)
	open := 0
	for range 30000 {
		vars := []int{0, 1, 2, 3, 4, 5, 6}
		var with []api.Type
		for range vars {
			with = append(with, c.typ([]int{7, 8}, c.pick(3)))
		}
		s := unify.New()
		for range 1 + c.pick(4) {
			a := c.typ(vars, c.pick(4))
			b := c.told(unify.Subst(a, vars, with), vars, with)
			if err := s.Unify(a, b); err != api.OK {
				t.Fatal(err, written(a), written(b))
			}
		}
		for range 4 {
			a := c.typ(append(vars, 7, 8), c.pick(4))
			r, err := s.Resolve(a)
			if err != api.OK {
				continue
			}
			open += len(unify.Vars(r))
			same(t, written(unify.Subst(r, vars, with)), written(unify.Subst(a, vars, with)))
		}
		if t.Failed() {
			t.FailNow()
		}
	}
	same(t, open > 50000, true)
}

// turned is a type with other variables in the place of its own, no two of them one.
func (c *chain) turned(t api.Type, vars []int) api.Type {
	var with []api.Type
	for i := range vars {
		with = append(with, num(40+i))
	}
	for i := range with {
		j := c.pick(i + 1)
		with[i], with[j] = with[j], with[i]
	}
	return unify.Subst(t, vars, with)
}

// P10.6

func TestManyRenamed(t *testing.T) {
	c := chain(4)
	apart := 0
	for range 50000 {
		vars := c.some(1 + c.pick(6))
		a := c.typ(vars, c.pick(4))
		r := unify.Rename(a)
		same(t, unify.Rename(r), r)
		same(t, unify.Rename(c.turned(a, slices.Compact(slices.Sorted(slices.Values(vars))))), r)
		same(t, unify.Size(r), unify.Size(a))
		for i, n := range unify.Vars(r) {
			same(t, n, i)
		}
		same(t, unify.Subst(r, unify.Vars(r), numbers(unify.Vars(a))), a)
		merged := unify.Subst(a, unify.Vars(a), []api.Type{num(5), num(5)})
		if len(unify.Vars(a)) > 1 {
			apart++
			same(t, reflect.DeepEqual(unify.Rename(merged), r), false)
		}
		if t.Failed() {
			t.Fatal(written(a))
		}
	}
	same(t, apart > 10000, true)
}

func numbers(l []int) []api.Type {
	var types []api.Type
	for _, n := range l {
		types = append(types, num(n))
	}
	return types
}

// Subst, part by part.
func TestManySubsts(t *testing.T) {
	c := chain(5)
	var instead func(t api.Type, vars []int, with []api.Type) api.Type
	instead = func(t api.Type, vars []int, with []api.Type) api.Type {
		if i := slices.Index(vars, t.N); t.Kind == api.KVar && i >= 0 && i < len(with) {
			return with[i]
		}
		r := api.Type{Kind: t.Kind, N: t.N, Name: t.Name}
		for _, a := range t.Args {
			r.Args = append(r.Args, instead(a, vars, with))
		}
		return r
	}
	for range 50000 {
		a := c.typ(c.some(1+c.pick(6)), c.pick(4))
		vars := c.some(c.pick(6))
		var with []api.Type
		for range c.pick(6) {
			with = append(with, c.typ(c.some(3), c.pick(3)))
		}
		if got, want := unify.Subst(a, vars, with), instead(a, vars, with); !reflect.DeepEqual(got, want) {
			t.Fatal(written(got), written(want), written(a), vars)
		}
	}
}

// The same calls tell the same, however often, and whatever other stores are told in between.
func TestAgain(t *testing.T) {
	for i := range 500 {
		c, d := chain(i), chain(i)
		one, two, other := unify.New(), unify.New(), unify.New()
		x, y := c.calls(), d.calls()
		for j := range x {
			x[j].of(one)
			x[(j*7)%len(x)].of(other)
			y[j].of(two)
		}
		for j := range x {
			x[j].got = nil
			x[j].of(one)
			y[j].of(two)
			same(t, x[j].got, y[j].got)
		}
	}
}
