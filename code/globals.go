package code

import (
	"changeling/api"
	"changeling/lift"
	"changeling/num"
)

// key is what a global is known by: a constructor may have the name of a global that is none.
type key struct {
	name string
	con  bool
}

// globals are the globals, with their numbers.
type globals struct {
	order   []key
	numbers map[key]int
	first   int // the first constructor's number
	cons    []api.Con
}

// inOrder are the globals, in order.
func inOrder(l []api.Super, cons []api.Con) []key {
	var order []key
	for i := range l {
		order = append(order, key{name: l[i].Name})
	}
	for i := range cons {
		order = append(order, key{name: cons[i].Name, con: true})
	}
	for op := 1; num.Name(op) != ""; op++ {
		order = append(order, key{name: num.Name(op)})
	}
	return order
}

func numbered(l []api.Super, cons []api.Con) *globals {
	g := &globals{order: inOrder(l, cons), numbers: map[key]int{}, first: len(l), cons: cons}
	for n, k := range g.order {
		g.numbers[k] = n
	}
	return g
}

// number is the number of a global that is there, and no constructor.
func (g *globals) number(name string) int {
	return g.numbers[key{name: name}]
}

// con is the number of a constructor that is there.
func (g *globals) con(name string) int {
	return g.numbers[key{name: name, con: true}]
}

// place is a constructor's place among the constructors.
func (g *globals) place(name string) int {
	return g.con(name) - g.first
}

// may tells whether supercombinators may be compiled that ask for no others than these globals.
func (g *globals) may(l []api.Super) bool {
	return len(g.numbers) == len(g.order) &&
		all(g.cons, func(c *api.Con) bool { return c.Name != "" }) &&
		g.takes("False", 0) && g.takes("True", 0) &&
		lift.Flat(l) && all(l, func(s *api.Super) bool { return g.known(&s.Body) })
}

// takes tells whether there is a constructor of that name, with so many Fields.
func (g *globals) takes(name string, fields int) bool {
	n, ok := g.numbers[key{name: name, con: true}]
	return ok && len(g.cons[n-g.first].Fields) == fields
}

// known tells whether the globals that an expression asks for are there, and its constructors have so many Fields.
func (g *globals) known(c *api.Core) bool {
	return g.has(c) && all(c.Args, g.known) && all(c.Alts, g.knownAlt) &&
		all(c.Binds, func(b *api.CBind) bool { return g.known(&b.Body) }) &&
		all(c.Picks, func(p *api.Choice) bool { return g.known(&p.Body) })
}

func (g *globals) knownAlt(a *api.CAlt) bool {
	return (a.Kind != api.ACon || g.takes(a.Name, len(a.Params))) && g.known(&a.Body)
}

// has tells whether what an expression asks for itself is there.
func (g *globals) has(c *api.Core) bool {
	switch c.Kind {
	case api.CGlob:
		_, ok := g.numbers[key{name: c.Name}]
		return ok
	case api.CCon:
		return g.takes(c.Name, c.Arity)
	}
	return true
}

// all tells whether something holds of each of a list.
func all[T any](l []T, holds func(*T) bool) bool {
	for i := range l {
		if !holds(&l[i]) {
			return false
		}
	}
	return true
}

// become is a list of what each of a list becomes.
func become[T, U any](l []T, to func(*T) U) []U {
	var made []U
	for i := range l {
		made = append(made, to(&l[i]))
	}
	return made
}
