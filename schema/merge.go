package schema

import (
	"slices"

	"changeling/api"
)

// choice is one of the choices that an expression is merged with. Expressions are handed on by pointers: they are large, and many are gone through side by side.
type choice struct {
	selector int
	body     *api.Core
}

// open are choices that are handed in; closed are choices that are answered, in new memory.
func open(l []api.Choice) []choice {
	return each(l, func(x *api.Choice) choice { return choice{x.Select, &x.Body} })
}

func closed(l []choice) []api.Choice {
	return each(l, func(x *choice) api.Choice { return api.Choice{Select: x.selector, Body: *merged(x.body, nil)} })
}

// merged is an expression merged with choices. Whether a choice's Body is the expression needs no look of its own: such a one is alike with it in all its parts, so that it never is one of the others, and no part is looked at more than once.
func merged(c *api.Core, l []choice) *api.Core {
	near, others := left(l, func(x *choice) bool { return alike(c, x.body) })
	made := rebuilt(c, func(at place) *api.Core {
		return merged(at(c), each(near, func(x *choice) choice { return choice{x.selector, at(x.body)} }))
	})
	made.Picks = closed(open(c.Picks))
	if len(others) == 0 {
		return made
	}
	return &api.Core{Kind: api.CPick, Args: []api.Core{*made}, Picks: closed(others)}
}

// picked is an expression picked by a selector.
func picked(c *api.Core, selector int) *api.Core {
	for c.Kind == api.CPick {
		c = pick(c, selector)
	}
	return rebuilt(c, func(at place) *api.Core { return picked(at(c), selector) })
}

// pick is what a CPick becomes.
func pick(c *api.Core, selector int) *api.Core {
	for i := range c.Picks {
		if c.Picks[i].Select == selector {
			return &c.Picks[i].Body
		}
	}
	if len(c.Args) == 0 {
		return &api.Core{}
	}
	return &c.Args[0]
}

// alike tells of two expressions whether they are the same but for what their parts are.
func alike(a, b *api.Core) bool {
	return a.Kind == b.Kind && a.Name == b.Name && a.N == b.N && a.Arity == b.Arity &&
		len(a.Args) == len(b.Args) && len(a.Picks) == len(b.Picks) && slices.Equal(a.Params, b.Params) &&
		slices.EqualFunc(a.Alts, b.Alts, alikeAlts) && slices.EqualFunc(a.Binds, b.Binds, alikeBinds)
}

func alikeAlts(a, b api.CAlt) bool {
	return a.Kind == b.Kind && a.Name == b.Name && a.N == b.N && slices.Equal(a.Params, b.Params)
}

func alikeBinds(a, b api.CBind) bool { return a.Name == b.Name }

// place is where a part stands: it finds the part there of an expression, and of all that are alike with it.
type place func(*api.Core) *api.Core

// rebuilt is an expression in new memory, with what is made for each place of a part there; it has no Picks.
func rebuilt(c *api.Core, part func(at place) *api.Core) *api.Core {
	made := *c
	made.Params = slices.Clone(c.Params)
	made.Args = slices.Clone(c.Args)
	for i := range made.Args {
		made.Args[i] = *part(func(c *api.Core) *api.Core { return &c.Args[i] })
	}
	made.Alts = slices.Clone(c.Alts)
	for i := range made.Alts {
		made.Alts[i].Params = slices.Clone(c.Alts[i].Params)
		made.Alts[i].Body = *part(func(c *api.Core) *api.Core { return &c.Alts[i].Body })
	}
	made.Binds = slices.Clone(c.Binds)
	for i := range made.Binds {
		made.Binds[i].Body = *part(func(c *api.Core) *api.Core { return &c.Binds[i].Body })
	}
	made.Picks = nil
	return &made
}

// left are those of a list of which a question is answered by yes, and those that are left then, both in order.
func left[T any](l []T, question func(*T) bool) (yes, no []T) {
	for i := range l {
		if question(&l[i]) {
			yes = append(yes, l[i])
		} else {
			no = append(no, l[i])
		}
	}
	return yes, no
}

// each is a list of what each of a list becomes.
func each[T, U any](l []T, become func(*T) U) []U {
	if len(l) == 0 {
		return nil
	}
	all := make([]U, len(l))
	for i := range l {
		all[i] = become(&l[i])
	}
	return all
}
