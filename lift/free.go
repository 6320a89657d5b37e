package lift

import (
	"changeling/api"
)

// names tells of names how often each is there.
type names map[string]int

// with does something while names more are there.
func (n names) with(more []string, do func()) {
	for _, name := range more {
		n[name]++
	}
	do()
	for _, name := range more {
		n[name]--
	}
}

// finder finds local names that are not bound.
type finder struct {
	bound names
	found names
	free  []string
}

// free are the local names that are free in an expression, but for some that are bound around it.
func free(c *api.Core, around []string) []string {
	f := &finder{bound: names{}, found: names{}}
	f.bound.with(around, func() { f.expr(c) })
	return f.free
}

// binds are the names that an expression binds in all of it.
func binds(c *api.Core) []string {
	if c.Kind == api.CLet {
		return become(c.Binds, func(b *api.CBind) string { return b.Name })
	}
	return c.Params
}

// expr looks at an expression and its parts, whatever its Kind has.
func (f *finder) expr(c *api.Core) {
	f.bound.with(binds(c), func() {
		if c.Kind == api.CVar {
			f.name(c.Name)
		}
		each(c.Args, f.expr)
		each(c.Alts, f.alt)
		each(c.Binds, func(b *api.CBind) { f.expr(&b.Body) })
		each(c.Picks, func(p *api.Choice) { f.expr(&p.Body) })
	})
}

func (f *finder) alt(a *api.CAlt) {
	f.bound.with(a.Params, func() { f.expr(&a.Body) })
}

func (f *finder) name(name string) {
	if f.bound[name] > 0 || f.found[name] > 0 {
		return
	}
	f.found[name]++
	f.free = append(f.free, name)
}
