package lift

import (
	"strings"

	"changeling/api"
	"changeling/num"
)

// shape is what is to be seen of an expression, or of an alternative, without a look into its parts.
type shape struct {
	kind                             int
	name                             string
	n                                int64
	arity                            int
	params, args, alts, binds, picks int
}

// noShape is that of nothing.
var noShape = shape{params: -1}

func shapeOf(c *api.Core) shape {
	return shape{c.Kind, c.Name, c.N, c.Arity, len(c.Params), len(c.Args), len(c.Alts), len(c.Binds), len(c.Picks)}
}

// wanted is the shape that an expression of that Kind has to have: what is not named for it is zero.
func wanted(c *api.Core) shape {
	s := shape{kind: c.Kind}
	switch c.Kind {
	case api.CVar, api.CGlob:
		s.name = c.Name
	case api.CInt:
		s.n = c.N
	case api.CCon:
		s.name, s.n, s.arity = c.Name, c.N, c.Arity
	case api.CApp:
		s.args = 2
	case api.CPrim:
		s.n, s.args = c.N, 2
	case api.CLam:
		s.params, s.args = max(1, len(c.Params)), 1
	case api.CLet:
		s.binds, s.args = max(1, len(c.Binds)), 1
	case api.CCase:
		s.alts, s.args = max(1, len(c.Alts)), 1
	case api.CPick:
		s.picks, s.args = len(c.Picks), 1
	case api.CFail:
	default:
		return noShape
	}
	return s
}

func altShape(a *api.CAlt) shape {
	return shape{kind: a.Kind, name: a.Name, n: a.N, params: len(a.Params)}
}

// wantedAlt is the shape that an alternative of that Kind has to have.
func wantedAlt(a *api.CAlt) shape {
	switch a.Kind {
	case api.ACon:
		return altShape(a)
	case api.AInt:
		return shape{kind: a.Kind, n: a.N}
	case api.AAny:
		return shape{kind: a.Kind}
	}
	return noShape
}

// globals are the definitions' names.
type globals names

// globalsOf are some names, and whether definitions or supercombinators may have them, side by side.
func globalsOf(l []string) (globals, bool) {
	g := globals{}
	for _, name := range l {
		g[name]++
	}
	return g, len(g) == len(l) && all(l, func(name *string) bool { return *name != "" && num.Op(*name) == 0 })
}

// may tells whether an expression may be, but for whether its local names are bound.
func (g globals) may(c *api.Core) bool {
	return shapeOf(c) == wanted(c) && g.says(c) &&
		all(c.Args, g.may) &&
		all(c.Alts, func(a *api.CAlt) bool { return g.may(&a.Body) }) &&
		all(c.Binds, func(b *api.CBind) bool { return g.may(&b.Body) }) &&
		all(c.Picks, func(p *api.Choice) bool { return g.may(&p.Body) })
}

// says tells whether an expression of the right shape says what one of its Kind may say.
func (g globals) says(c *api.Core) bool {
	switch c.Kind {
	case api.CVar:
		return local(&c.Name)
	case api.CGlob:
		return g[c.Name] > 0 || num.Op(c.Name) > 0
	case api.CCon:
		return c.Name != "" && c.N >= 0 && c.Arity >= 0
	case api.CPrim:
		return num.Name(int(c.N)) != ""
	case api.CLam, api.CLet:
		return locals(binds(c))
	case api.CCase:
		return alternatives(c.Alts)
	case api.CPick:
		return unlike(c.Picks, func(p *api.Choice) int { return p.Select })
	}
	return true
}

// local tells whether a name may be a local one.
func local(name *string) bool {
	text, ok := strings.CutPrefix(*name, "#")
	n, err := num.Parse(text)
	return ok && err == api.OK && n >= 0
}

// locals tells whether names may be bound in one place.
func locals(l []string) bool {
	return all(l, local) && unlike(l, func(name *string) string { return *name })
}

// made tells whether a name may be one that Lift makes.
func made(name string) bool {
	i := strings.LastIndex(name, "#")
	_, err := num.Parse(name[i+1:])
	return i >= 0 && err == api.OK
}

// asked is what an alternative asks for: constructors are known by their names.
type asked struct {
	name string
	n    int64
}

func asks(a *api.CAlt) asked {
	if a.Kind == api.ACon {
		return asked{name: a.Name}
	}
	return asked{n: a.N}
}

// alternatives tells whether alternatives, one at least, may stand in one case.
func alternatives(l []api.CAlt) bool {
	asking := l
	if last := len(l) - 1; l[last].Kind == api.AAny {
		asking = l[:last]
	}
	return all(l, alternative) && unlike(asking, asks) && all(asking, func(a *api.CAlt) bool {
		return a.Kind == l[0].Kind && (a.Kind == api.ACon || a.Kind == api.AInt && len(asking) < len(l))
	})
}

func alternative(a *api.CAlt) bool {
	if altShape(a) != wantedAlt(a) {
		return false
	}
	return a.Kind != api.ACon || a.Name != "" && a.N >= 0 && locals(a.Params)
}

// flatNow tells whether an expression that is asked at once may stand in what is flat.
func flatNow(c *api.Core) bool {
	switch c.Kind {
	case api.CLam:
		return false
	case api.CLet:
		return all(c.Args, flatNow) && all(c.Binds, func(b *api.CBind) bool { return flatLater(&b.Body) })
	case api.CCase, api.CPrim, api.CPick:
		return all(c.Args, flatNow) &&
			all(c.Alts, func(a *api.CAlt) bool { return flatNow(&a.Body) }) &&
			all(c.Picks, func(p *api.Choice) bool { return flatNow(&p.Body) })
	}
	return all(c.Args, flatLater)
}

// flatLater tells whether an expression that is asked later may stand in what is flat.
func flatLater(c *api.Core) bool {
	if liftable(c) {
		return false
	}
	return all(c.Args, flatLater) && all(c.Binds, func(b *api.CBind) bool { return flatLater(&b.Body) })
}

// liftable tells whether an expression needs a name of its own where it is asked later.
func liftable(c *api.Core) bool {
	switch c.Kind {
	case api.CLam, api.CCase, api.CPick, api.CFail:
		return true
	}
	return false
}
