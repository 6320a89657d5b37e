package gm_test

import (
	"fmt"
	"reflect"
	"slices"
	"strings"
	"testing"

	"changeling/api"
	"changeling/gm"
	"changeling/num"
)

func same(t *testing.T, what, got, want any) {
	t.Helper()
	if !reflect.DeepEqual(got, want) {
		t.Errorf("%v: %v, not %v", what, got, want)
	}
}

// The constructors of most tests: their places are other numbers than their Tags.
func knownCons() []api.Con {
	fields := func(n int) []api.Type { return slices.Repeat([]api.Type{{Kind: api.KCon, Name: "Int"}}, n) }
	return []api.Con{
		{Name: "N", Data: "L"},
		{Name: "True", Data: "Bool", Tag: 1},
		{Name: "C", Data: "L", Tag: 1, Fields: fields(2)},
		{Name: "False", Data: "Bool"},
		{Name: "P", Data: "P", Fields: fields(2)},
		{Name: "T", Data: "T", Fields: fields(3)},
	}
}

// most is how many globals there are beside the supercombinators.
const most = 6 + 11

func conOf(name string) (api.Con, bool) {
	l := knownCons()
	i := slices.IndexFunc(l, func(c api.Con) bool { return c.Name == name })
	if i < 0 {
		return api.Con{}, false
	}
	return l[i], true
}

// Core expressions are written as texts: (f a b) is an application, and there are
//
//	(prim + a b) (lam #0 #1 : e) (let (#0 a) (#1 b) e) (case a (C #0 #1 : e) (3 : e) (_ : e)) (pick e (5 : e) (7 : e)) fail

// tree is a word, or what stands in brackets.
type tree struct {
	word string
	in   []tree
}

func trees(text string) []tree {
	words := strings.Fields(strings.NewReplacer("(", " ( ", ")", " ) ").Replace(text))
	open := []tree{{}}
	for _, w := range words {
		last := len(open) - 1
		switch w {
		case "(":
			open = append(open, tree{})
		case ")":
			open[last-1].in = append(open[last-1].in, open[last])
			open = open[:last]
		default:
			open[last].in = append(open[last].in, tree{word: w})
		}
	}
	if len(open) != 1 {
		panic("brackets: " + text)
	}
	return open[0].in
}

func (x tree) core() api.Core {
	if x.word != "" {
		return leaf(x.word)
	}
	last := len(x.in) - 1
	switch x.in[0].word {
	case "prim":
		return api.Core{Kind: api.CPrim, N: int64(num.Op(x.in[1].word)), Args: cores(x.in[2:])}
	case "lam":
		return api.Core{Kind: api.CLam, Params: wordsOf(x.in[1 : last-1]), Args: cores(x.in[last:])}
	case "let":
		c := api.Core{Kind: api.CLet, Args: cores(x.in[last:])}
		for _, b := range x.in[1:last] {
			c.Binds = append(c.Binds, api.CBind{Name: b.in[0].word, Body: b.in[1].core()})
		}
		return c
	case "case":
		c := api.Core{Kind: api.CCase, Args: cores(x.in[1:2])}
		for _, a := range x.in[2:] {
			c.Alts = append(c.Alts, a.alt())
		}
		return c
	case "pick":
		c := api.Core{Kind: api.CPick, Args: cores(x.in[1:2])}
		for _, p := range x.in[2:] {
			n, _ := num.Parse(p.in[0].word)
			c.Picks = append(c.Picks, api.Choice{Select: int(n), Body: p.in[2].core()})
		}
		return c
	}
	c := x.in[0].core()
	for _, a := range x.in[1:] {
		c = api.Core{Kind: api.CApp, Args: []api.Core{c, a.core()}}
	}
	return c
}

func leaf(word string) api.Core {
	if n, err := num.Parse(word); err == api.OK {
		return api.Core{Kind: api.CInt, N: n}
	}
	switch c, ok := conOf(word); {
	case word == "fail":
		return api.Core{Kind: api.CFail}
	case ok:
		return api.Core{Kind: api.CCon, Name: word, N: int64(c.Tag), Arity: len(c.Fields)}
	case word[0] == '#':
		return api.Core{Kind: api.CVar, Name: word}
	}
	return api.Core{Kind: api.CGlob, Name: word}
}

func (x tree) alt() api.CAlt {
	last := len(x.in) - 1
	a := api.CAlt{Kind: api.AAny, Body: x.in[last].core()}
	n, err := num.Parse(x.in[0].word)
	switch c, ok := conOf(x.in[0].word); {
	case ok:
		a.Kind, a.Name, a.N, a.Params = api.ACon, c.Name, int64(c.Tag), wordsOf(x.in[1:last-1])
	case err == api.OK:
		a.Kind, a.N = api.AInt, n
	}
	return a
}

func cores(l []tree) []api.Core {
	var all []api.Core
	for _, x := range l {
		all = append(all, x.core())
	}
	return all
}

func wordsOf(l []tree) []string {
	var all []string
	for _, x := range l {
		all = append(all, x.word)
	}
	return all
}

// expr is an expression.
func expr(text string) api.Core { return trees(text)[0].core() }

// supers are supercombinators, a line each: the name, the Params, = and the Body.
func supers(text string) []api.Super {
	var l []api.Super
	for line := range strings.Lines(text) {
		if strings.TrimSpace(line) == "" {
			continue
		}
		head, body, _ := strings.Cut(line, " = ")
		names := strings.Fields(head)
		l = append(l, api.Super{Name: names[0], Params: names[1:], Body: expr(body)})
	}
	return l
}

// Outcomes, as texts.

func termText(x api.Term) string {
	switch {
	case x.Con == "":
		return fmt.Sprint(x.N)
	case len(x.Args) == 0:
		return x.Con
	}
	words := []string{x.Con}
	for _, a := range x.Args {
		words = append(words, termText(a))
	}
	return "(" + strings.Join(words, " ") + ")"
}

func kindText(kind int) string {
	return []string{"going", "value", "match", "zero", "loop", "fuel", "heap", "stack"}[kind]
}

// outText is an outcome; what is to be zero in it is.
func outText(t *testing.T, o api.Out) string {
	t.Helper()
	if o.Kind == api.OutValue {
		return fmt.Sprint(termText(o.Term), " in ", o.Steps)
	}
	same(t, "no term", o.Term, api.Term{})
	return fmt.Sprint(kindText(o.Kind), " in ", o.Steps)
}

// What is asked of programs.

func loaded(t *testing.T, text string) *gm.Program {
	t.Helper()
	return loadedOf(t, supers(text), knownCons())
}

func loadedOf(t *testing.T, l []api.Super, cons []api.Con) *gm.Program {
	t.Helper()
	p, err := gm.Load(l, cons)
	if p == nil || err != api.OK {
		t.Fatal(err, l)
	}
	return p
}

func started(t *testing.T, p *gm.Program, e api.Core, selector int, b api.Budget) *gm.Machine {
	t.Helper()
	m, err := p.Start(e, selector, b)
	if m == nil || err != api.OK {
		t.Fatal(err, e)
	}
	return m
}

func ran(t *testing.T, p *gm.Program, e api.Core, selector int, b api.Budget) api.Out {
	t.Helper()
	o, err := p.Run(e, selector, b)
	if err != api.OK {
		t.Fatal(err, e)
	}
	return o
}

// wide is a budget that is enough for most tests.
var wide = api.Budget{Fuel: 10000, Heap: 10000, Stack: 10000}

// told is what an expression comes to, and in how many steps.
func told(t *testing.T, text, e string, selector int, b api.Budget) string {
	t.Helper()
	return outText(t, ran(t, loaded(t, text), expr(e), selector, b))
}
