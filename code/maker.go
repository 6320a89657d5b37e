package code

import (
	"changeling/api"
	"changeling/num"
)

// maker makes one code.
type maker struct {
	globals *globals
	levels  map[string]int // of the local names in scope
	ops     []api.Instr
}

func (g *globals) maker() *maker {
	return &maker{globals: g, levels: map[string]int{}}
}

// with does something while local names more are in scope.
func (m *maker) with(names []string, level func(i int) int, do func()) {
	var old []int
	for i, name := range names {
		old = append(old, m.levels[name])
		m.levels[name] = level(i)
	}
	do()
	for i, name := range names {
		m.levels[name] = old[i]
	}
}

// next is the place of the next instruction.
func (m *maker) next() int {
	return len(m.ops)
}

func (m *maker) add(i api.Instr) {
	m.ops = append(m.ops, i)
}

func (m *maker) put(op int) {
	m.add(api.Instr{Op: op})
}

func (m *maker) putK(op, k int) {
	m.add(api.Instr{Op: op, K: k})
}

func (m *maker) putN(op int, n int64) {
	m.add(api.Instr{Op: op, N: n})
}

// finish puts what ends a code at depth d, where the value is on top.
func (m *maker) finish(d int) {
	m.putK(api.IUpdate, d)
	m.putK(api.IPop, d)
	m.put(api.IUnwind)
}

// later puts what makes a node of an expression at depth d.
func (m *maker) later(c *api.Core, d int) {
	switch c.Kind {
	case api.CVar:
		m.putK(api.IPush, d-1-m.levels[c.Name])
	case api.CGlob:
		m.putK(api.IGlob, m.globals.number(c.Name))
	case api.CCon:
		m.putK(api.IGlob, m.globals.con(c.Name))
	case api.CInt:
		m.putN(api.IInt, c.N)
	case api.CApp:
		m.argsLater(c, d)
		m.put(api.IApply)
	case api.CPrim:
		m.argsLater(c, d)
		m.putK(api.IGlob, m.globals.number(num.Name(int(c.N))))
		m.put(api.IApply)
		m.put(api.IApply)
	case api.CLet:
		m.let(c, d, m.later)
		m.putK(api.ISlide, len(c.Binds))
	}
}

// argsLater puts what makes nodes of two Args, the first one on top.
func (m *maker) argsLater(c *api.Core, d int) {
	m.later(&c.Args[1], d)
	m.later(&c.Args[0], d+1)
}

// now puts what finds an expression's value at depth d.
func (m *maker) now(c *api.Core, d int) {
	switch c.Kind {
	case api.CInt:
		m.later(c, d)
	case api.CPrim:
		m.prim(c, d)
	case api.CLet:
		m.let(c, d, m.now)
		m.putK(api.ISlide, len(c.Binds))
	case api.CCase:
		m.cases(c, d, false)
	case api.CPick:
		m.picks(c, d, false)
	case api.CFail:
		m.put(api.IFail)
	default:
		m.later(c, d)
		m.put(api.IEval)
	}
}

// end puts what ends a code with an expression's value, from depth d on.
func (m *maker) end(c *api.Core, d int) {
	switch c.Kind {
	case api.CPrim:
		m.prim(c, d)
		m.finish(d)
	case api.CLet:
		m.let(c, d, m.end)
	case api.CCase:
		m.cases(c, d, true)
	case api.CPick:
		m.picks(c, d, true)
	case api.CFail:
		m.put(api.IFail)
	default:
		m.later(c, d)
		m.finish(d)
	}
}

func (m *maker) prim(c *api.Core, d int) {
	m.now(&c.Args[0], d)
	m.now(&c.Args[1], d+1)
	m.putN(api.IPrim, c.N)
}

// let puts a CLet's bindings, and does what stands in it.
func (m *maker) let(c *api.Core, d int, in func(*api.Core, int)) {
	n := len(c.Binds)
	names := become(c.Binds, func(b *api.CBind) string { return b.Name })
	m.putK(api.IAlloc, n)
	m.with(names, func(i int) int { return d + i }, func() {
		for i := range c.Binds {
			m.later(&c.Binds[i].Body, d+n)
			m.putK(api.IUpdate, n-1-i)
		}
		in(&c.Args[0], d+n)
	})
}
