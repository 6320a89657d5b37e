package schema_test

import (
	"fmt"
	"math"
	"slices"
	"strings"
	"testing"

	"changeling/api"
	"changeling/match"
	"changeling/mutate"
	"changeling/num"
	"changeling/parse"
	"changeling/schema"
)

func program(t *testing.T, src string) api.Program {
	t.Helper()
	p, fault := parse.Program(src)
	if fault.Err != api.OK {
		t.Fatal(src, fault)
	}
	return p
}

// programs are mutants of sources of their own.
func programs(t *testing.T, l ...string) []api.Mutant {
	t.Helper()
	var all []api.Mutant
	for _, src := range l {
		all = append(all, api.Mutant{Program: program(t, src)})
	}
	return all
}

// compiled is what the i-th mutant is compiled to, or by any other number what the program is.
func compiled(t *testing.T, p api.Program, l []api.Mutant, i int) []api.Def {
	t.Helper()
	if i > 0 && i <= len(l) {
		p = l[i-1].Program
	}
	defs, fault := match.Compile(p)
	if fault.Err != api.OK {
		t.Fatal(fault)
	}
	return defs
}

// packs holds what is packed against what each mutant is compiled to, and what is merged of these (P22.2, P22.3, P22.5).
func packs(t *testing.T, p api.Program, l []api.Mutant) []api.Def {
	t.Helper()
	packed, err := schema.Pack(p, l)
	same(t, "error", err, api.OK)
	var all [][]api.Def
	for i := range len(l) + 1 {
		all = append(all, compiled(t, p, l, i))
		same(t, i, schema.Choose(packed, i), all[i])
	}
	for _, i := range []int{-1, len(l) + 1, math.MinInt, math.MaxInt} {
		same(t, i, schema.Choose(packed, i), all[0])
	}
	points := 0
	same(t, "definitions", len(packed), len(all[0]))
	for k, d := range all[0] {
		var choices []api.Choice
		for i := range l {
			choices = append(choices, on(i+1, all[i+1][k].Body))
		}
		want := mergedAgain(d.Body, choices)
		same(t, d.Name, packed[k], def(d.Name, want))
		withinBound(t, d.Body, choices, want)
		points += pointsAgain(want)
	}
	same(t, "CPicks", schema.Points(packed), points)
	return packed
}

// P22.2

func TestPackExample(t *testing.T) {
	p := program(t, "f x = x + 1")
	l, _ := mutate.All(p)
	op := func(name string) api.Choice {
		return on(strings.Index("-*/%", name)+1, prim(name, v("#0"), integer(1)))
	}
	want := lam(pick(prim("+", v("#0"), pick(integer(1), on(5, integer(2)), on(6, integer(0)))), op("-"), op("*"), op("/"), op("%")), "#0")
	same(t, "packed", packs(t, p, l), []api.Def{def("f", want)})
	same(t, "operators", num.Op("-"), num.Op("+")+1)
}

func TestPack(t *testing.T) {
	one, two, x := integer(1), integer(2), v("#0")
	for i, c := range []struct {
		src     string
		mutants []string
		want    []api.Def
	}{
		// No mutants, no bindings.
		{"f x = x; g = f 1", nil, []api.Def{def("f", lam(x, "#0")), def("g", app(glob("f"), one))}},
		{"", nil, nil},
		{"", []string{"", "data D = E"}, nil},
		{"data D = E", []string{""}, nil},
		// One, which is the program, or not.
		{"f = 1", []string{"f = 1"}, []api.Def{def("f", one)}},
		{"f = 1", []string{"f = (1)\n-- once more"}, []api.Def{def("f", one)}},
		{"f = 1", []string{"f = 2"}, []api.Def{def("f", pick(one, on(1, two)))}},
		// Several, some of which are the program, or one another.
		{"f = 1; g = f", []string{"f = 1; g = f", "f = 2; g = f", "f = 2; g = f", "f = 1; g = f", "f = 1; g = g", "f = 2; g = 2"}, []api.Def{
			def("f", pick(one, on(2, two), on(3, two), on(6, two))), def("g", pick(glob("f"), on(5, glob("g")), on(6, two)))}},
		{"f x = x + 1", []string{"f x = x + 2", "f x = 1 + 1", "f x = x - 1", "f y = y + 1", "f x z = x + 1"}, []api.Def{
			def("f", pick(lam(pick(prim("+", pick(x, on(2, one)), pick(one, on(1, two))), on(3, prim("-", x, one))), "#0"), on(5, lam(prim("+", x, one), "#0", "#1"))))}},
		// Whatever else is in them: other types, data types and ways of binding.
		{"data D = E Int; infixl 3 !; f x = E x; (!) a b = a", []string{"data C = A | B | E; infixr 4 !; f x = E; (!) a b = b 1", "f 0 = 1; (!) a b = a"}, []api.Def{
			def("f", lam(pick(app(con("E", 0, 1), x), on(1, con("E", 2, 0)), on(2, choice(x, ofInt(0, one), ofAny(fail())))), "#0")),
			def("!", lam(pick(x, on(1, app(v("#1"), one))), "#0", "#1"))}},
		// One name is that of several definitions only if they stand in the same order.
		{"f = 1; g = 2", []string{"f = 2; g = 1"}, []api.Def{def("f", pick(one, on(1, two))), def("g", pick(two, on(1, one)))}},
	} {
		got := packs(t, program(t, c.src), programs(t, c.mutants...))
		same(t, i, got, c.want)
		same(t, i, len(got), len(c.want))
	}
}

func TestPackFaults(t *testing.T) {
	const right = "f x = x + 1; g = f 2"
	for what, src := range map[string]string{
		"scope":      "f x = y; g = f 2",
		"twice":      "f x = x; g = 1; f x = x",
		"type":       "f x = x + True; g = f 2",
		"cycle":      "f x = x x; g = f 2",
		"main":       "f x = x; g = f f 1 2 True + f",
		"arity":      "data D = E Int; f (E x y) = x; g = 2",
		"no data":    "data D = E C; f x = x; g = 2",
		"a name":     "f x = x + 1; h = f 2",
		"other case": "f x = x + 1; g' = f 2",
		"more":       "f x = x + 1; g = f 2; h = 1",
		"more ahead": "h = 1; f x = x + 1; g = f 2",
		"fewer":      "f x = x + 1",
		"none":       "",
		"order":      "g = f 2; f x = x + 1",
	} {
		p, l := program(t, right), programs(t, src)
		fault := what != "a name" && what != "other case" && !strings.HasPrefix(what, "more") && what != "fewer" && what != "none" && what != "order"
		if _, f := match.Compile(l[0].Program); (f.Err != api.OK) != fault {
			t.Error(what, f)
		}
		notPacked(t, what, p, l)
		notPacked(t, what, l[0].Program, programs(t, right))
		good := programs(t, right, "f x = x + 3; g = f 2")
		notPacked(t, what, p, slices.Concat(l, good))
		notPacked(t, what, p, slices.Concat(good, l))
		notPacked(t, what, p, slices.Concat(good[:1], l, good[1:], l))
		if fault {
			notPacked(t, what, l[0].Program, nil)
			notPacked(t, what, l[0].Program, l)
		} else {
			packs(t, l[0].Program, slices.Concat(l, l))
		}
	}
	// What no source has: bindings that may not be.
	for i, p := range []api.Program{
		{Binds: []api.Bind{{}}},
		{Binds: []api.Bind{{Name: "f"}}},
		{Binds: []api.Bind{{Name: "f", Clauses: []api.Clause{{}}}}},
		{Binds: []api.Bind{{Name: "f", Clauses: []api.Clause{{Rhs: []api.Rhs{{}}}}}}},
		{Datas: []api.Data{{}}},
	} {
		if _, fault := match.Compile(p); fault.Err == api.OK {
			t.Error(i)
		}
		notPacked(t, i, p, nil)
		notPacked(t, i, api.Program{}, []api.Mutant{{}, {Program: p}})
	}
	packs(t, api.Program{}, make([]api.Mutant, 3))
	// The mutant's site and operator are not looked at.
	one := programs(t, "f = 2", "f = 3")
	one[0].Site, one[0].Op, one[1].Site, one[1].Op = -5, 99, -5, 99
	packs(t, program(t, "f = 1"), one)
}

func notPacked(t *testing.T, what any, p api.Program, l []api.Mutant) {
	t.Helper()
	packed, err := schema.Pack(p, l)
	same(t, what, err, api.ErrArg)
	same(t, what, len(packed), 0)
}

// sources are programs with much in them.
var sources = []string{
	`data L a = N | C a (L a)
len N = 0
len (C _ l) = 1 + len l
map f N = N
map f (C x l) = C (f x) (map f l)
take 0 _ = N
take n N = N
take n (C x l) = C x (take (n - 1) l)
filter p N = N
filter p (C x l) | p x = C x (filter p l) | True = filter p l
from n = C n (from (n + 1))
sieve N = N
sieve (C x l) = C x (sieve (filter (\y -> y % x /= 0) l))
sum N = 0
sum (C x l) = x + sum l
primes = take 4 (sieve (from 2))
p n = sum (map (\x -> x * 2) (take n (from 0))) == n * (n - 1)`,
	`data T = E | B T Int T
put x E = B E x E
put x (B l y r) | x < y = B (put x l) y r
                | x > y = B l y (put x r)
                | True = B l y r
has x t = case t of { E -> False; B l y r | x == y -> True | x < y -> has x l; B _ _ r -> has x r }
size E = 0
size (B l _ r) = size l + 1 + size r
p a b c = let { t = put a (put b (put c E)); n = if a == b then 2 else 3 } in if has b t then size t <= n else False`,
	`data B = O | I
even n = let { e 0 = True; e m = o (m - 1); o 0 = False; o m = e (m - 1) } in e n
inv O = I
inv I = O
xor O b = b
xor I O = I
xor I I = O
k x y = x
q a b = case xor a b of { O -> case a of { O -> k True b; I -> True }; I -> if k True (inv a) then False else True }
p n = case n % 2 of { 0 -> even n; 1 -> even (n + 1); (-1) -> True; _ -> k False n }`,
}

// P22.5

// All mutants of programs, and all that the catalogue makes and that has types; in several orders, and less of them.
func TestMutants(t *testing.T) {
	t.Parallel()
	for _, src := range sources {
		p := program(t, src)
		l, fault := mutate.All(p)
		same(t, "fault", fault, api.Fault{})
		rewrites := slices.DeleteFunc(mutate.Rewrites(p), func(m api.Mutant) bool {
			_, fault := match.Compile(m.Program)
			return fault.Err != api.OK
		})
		if len(l) < 50 || len(rewrites) <= len(l) {
			t.Error(len(l), len(rewrites))
		}
		packed := packs(t, p, l)
		// Each mutant that is compiled to something else stands there once at least, and no other one.
		selects := map[int]int{}
		for i := range packed {
			count(&packed[i].Body, selects)
		}
		others := 0
		for i := range l {
			differs := fmt.Sprint(compiled(t, p, l, i+1)) != fmt.Sprint(compiled(t, p, l, 0))
			same(t, i+1, selects[i+1] > 0, differs)
			if differs {
				others++
			}
		}
		same(t, "choices", len(selects), others)
		packs(t, p, rewrites)
		slices.Reverse(l)
		packs(t, p, l)
		packs(t, l[3].Program, l)
		packs(t, p, l[:1])
		for i := range 3 {
			packs(t, p, l[i*7:i*7+9])
		}
	}
}

// count tells how often each Select stands in an expression.
func count(c *api.Core, selects map[int]int) {
	for _, p := range parts(*c) {
		count(p, selects)
	}
	for i := range c.Picks {
		selects[c.Picks[i].Select]++
		count(&c.Picks[i].Body, selects)
	}
}

// Mutants of mutants: they differ from the program in several places.
func TestFarMutants(t *testing.T) {
	t.Parallel()
	m := chain(5)
	for _, src := range sources {
		p := program(t, src)
		first, _ := mutate.All(p)
		var l []api.Mutant
		for range 12 {
			further, _ := mutate.All(first[m.pick(len(first))].Program)
			for range 5 {
				l = append(l, further[m.pick(len(further))])
			}
		}
		packs(t, p, l)
	}
}

// What is handed in is neither changed nor kept, and what is answered is new memory.
func TestPackNewMemory(t *testing.T) {
	p := program(t, sources[1])
	l, _ := mutate.All(p)
	l = append(l, api.Mutant{Program: p}, l[0])
	was := fmt.Sprint(p, l)
	packed, err := schema.Pack(p, l)
	same(t, "error", err, api.OK)
	same(t, "changed", fmt.Sprint(p, l), was)
	want := fmt.Sprint(packed)
	once, _ := schema.Pack(p, l)
	same(t, "once more", fmt.Sprint(once), want)
	chosen := schema.Choose(packed, 3)
	seen := map[any]int{}
	for _, defs := range [][]api.Def{packed, once, chosen} {
		list(t, seen, defs)
		for i := range defs {
			own(t, seen, &defs[i].Body)
		}
	}
	for i := range packed {
		spoil(&packed[i].Body)
		packed[i].Name = "spoilt"
	}
	same(t, "once more", fmt.Sprint(once), want)
	same(t, "chosen", chosen, schema.Choose(once, 3))
	same(t, "kept", fmt.Sprint(p, l), was)
}
