package schema_test

import (
	"math"
	"slices"
	"strings"
	"testing"

	"changeling/api"
	"changeling/decl"
	"changeling/gm"
	"changeling/lift"
	"changeling/match"
	"changeling/mutate"
	"changeling/schema"
	"changeling/term"
)

// P22.6

// loaded are definitions that the machine may run, with all constructors that are there.
func loaded(t *testing.T, p api.Program, l []api.Def) *gm.Program {
	t.Helper()
	if !lift.Right(l) {
		t.Fatal("these may not be: ", l)
	}
	supers, err := lift.Lift(l)
	same(t, "lift", err, api.OK)
	d, fault := decl.New(p.Datas)
	same(t, "decl", fault, api.Fault{})
	m, err := gm.Load(supers, d.All())
	if err != api.OK {
		t.Fatal("load: ", err)
	}
	return m
}

// told is the outcome of an expression for a selector: its value, match, zero, or nothing.
func told(t *testing.T, m *gm.Program, e api.Core, selector int) string {
	t.Helper()
	o, err := m.Run(e, selector, api.Budget{Fuel: 60000, Heap: 20000, Stack: 20000})
	same(t, "run", err, api.OK)
	switch o.Kind {
	case api.OutValue:
		return term.Text(o.Term)
	case api.OutMatch:
		return "match"
	case api.OutZero:
		return "zero"
	}
	return "nothing"
}

func TestMeanings(t *testing.T) {
	const src = "data L = N | C Int L\nf x = x / 2\ng N = 0\ng (C x l) = f x + g l\na = g (C 7 (C 9 N))\nb = C a b"
	p := program(t, src)
	all := []struct{ old, with, want string }{
		{"f x = x / 2", "f x = x / 0", "zero"},
		{"f x = x / 2", "f x = x / 1", "16"},
		{"f x = x / 2", "f x = 2", "4"},
		{"f x = x / 2", "f 7 = 2", "match"},
		{"f x = x / 2", "f x = f x", "nothing"},
		{"f x = x / 2", "f 9 = 1\nf x = 2 / (x - 7)", "zero"},
		{"f x = x / 2", "f 9 = 5\nf 7 = 6", "11"},
		{"f x = x / 2", "f = \\y -> y * 2", "32"},
		{"f x = x / 2", "f x = (x / 2)", "7"},
		{"g N = 0", "g N = 1", "8"},
		{"g N = 0", "g N = g N", "nothing"},
		{"g N = 0", "g N = g (C 7 N)", "nothing"},
		{"g N = 0", "g N = f 7", "10"},
		{"g (C x l) = f x + g l", "g (C x _) = 100", "100"},
		{"g (C x l) = f x + g l", "g (C 7 l) = f 7 + g l", "match"},
		{"g (C x l) = f x + g l", "g (C 7 l) = 1 + g l\ng (C x l) = f x + g l", "5"},
		{"g (C x l) = f x + g l", "g (C x (C y l)) = y\ng (C x l) = f x + g l", "9"},
		{"C 7 (C 9 N)", "N", "0"},
		{"C 7 (C 9 N)", "C 8 b", "nothing"},
		{"a = g (C 7 (C 9 N))", "a = f 1 / f 0", "zero"},
		{"b = C a b", "b = N", "7"},
		{"b = C a b", "b = C 3 (C a N)", "7"},
	}
	var sources []string
	for _, c := range all {
		sources = append(sources, strings.Replace(src, c.old, c.with, 1))
	}
	packed := packs(t, p, programs(t, sources...))
	m := loaded(t, p, packed)
	for i, c := range all {
		same(t, c.with, told(t, m, glob("a"), i+1), c.want)
	}
	for _, none := range []int{0, -1, len(all) + 1, math.MinInt, math.MaxInt} {
		same(t, none, told(t, m, glob("a"), none), "7")
		same(t, none, told(t, m, glob("b"), none), "nothing")
	}
	same(t, "one before the last", told(t, m, glob("b"), len(all)-1), "N")
	same(t, "the last", told(t, m, glob("b"), len(all)), "C 3 (C 7 N)")
}

// calls are a property applied to rows of integers.
func calls(name string, arity int) []api.Core {
	all := []api.Core{glob(name)}
	for range arity {
		var longer []api.Core
		for _, f := range all {
			for _, n := range []int64{0, 1, 3, -2} {
				longer = append(longer, app(f, integer(n)))
			}
		}
		all = longer
	}
	return all
}

// What the machine tells of what is packed, for each selector, is what it tells of each mutant alone.
func TestOutcomes(t *testing.T) {
	t.Parallel()
	all := map[string]int{}
	for i, src := range sources {
		p := program(t, src)
		l, _ := mutate.All(p)
		packed, err := schema.Pack(p, l)
		same(t, "error", err, api.OK)
		m := loaded(t, p, packed)
		asked := calls("p", []int{1, 3, 1}[i])
		if i == 2 { // all of its other property's arguments
			for _, a := range []api.Core{con("O", 0, 0), con("I", 1, 0)} {
				asked = append(asked, app(glob("q"), a, con("I", 1, 0)), app(glob("q"), a, con("O", 0, 0)))
			}
		}
		asked = slices.DeleteFunc(asked, func(e api.Core) bool { return i == 1 && match.Size(e.Args[0])%3 == 0 })
		for k := range len(l) + 1 {
			alone := loaded(t, p, compiled(t, p, l, k))
			for _, e := range asked {
				got := told(t, m, e, k)
				same(t, k, got, told(t, alone, e, 0))
				all[got]++
			}
		}
	}
	if all["True"] < 100 || all["False"] < 100 || all["match"] < 20 || all["zero"] < 5 || all["nothing"] < 10 {
		t.Error(all)
	}
}
