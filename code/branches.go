package code

import (
	"changeling/api"
)

// branches are those of one choice: in the end each one ends the code, else all go on where they meet.
type branches struct {
	last bool
	from int   // the place of the choice
	out  []int // the places of the jumps to where they meet
}

// choose puts a choice whose branches are to follow.
func (m *maker) choose(op, k int, last bool) *branches {
	b := &branches{last: last, from: m.next()}
	m.putK(op, k)
	return b
}

// enter has a choice lead to the next place for a key.
func (m *maker) enter(b *branches, key int64) {
	choice := &m.ops[b.from]
	choice.Jumps = append(choice.Jumps, api.Jump{Key: key, To: m.next()})
}

// enterElse has it lead to the next place for all other keys.
func (m *maker) enterElse(b *branches) {
	m.ops[b.from].K = m.next()
}

// body puts what stands in a branch.
func (m *maker) body(b *branches, c *api.Core, d int) {
	if b.last {
		m.end(c, d)
	} else {
		m.now(c, d)
	}
}

// leave goes on where all branches meet.
func (m *maker) leave(b *branches) {
	if !b.last {
		b.out = append(b.out, m.next())
		m.put(api.IJump)
	}
}

// meet is behind the last branch.
func (m *maker) meet(b *branches) {
	for _, at := range b.out {
		m.ops[at].K = m.next()
	}
}

// cases puts a CCase at depth d.
func (m *maker) cases(c *api.Core, d int, last bool) {
	m.now(&c.Args[0], d)
	b := m.choose(api.ICase, -1, last)
	for i := range c.Alts {
		m.alt(b, &c.Alts[i], d)
	}
	m.meet(b)
}

func (m *maker) alt(b *branches, a *api.CAlt, d int) {
	switch a.Kind {
	case api.ACon:
		m.enter(b, int64(m.globals.place(a.Name)))
		m.fields(b, a, d)
	case api.AInt:
		m.enter(b, a.N)
		m.without(b, a, d)
	case api.AAny:
		m.enterElse(b)
		m.without(b, a, d)
	}
	m.leave(b)
}

// fields puts an alternative that has the fields of what was looked at.
func (m *maker) fields(b *branches, a *api.CAlt, d int) {
	n := len(a.Params)
	m.putK(api.ISplit, n)
	m.with(a.Params, func(j int) int { return d + n - 1 - j }, func() { m.body(b, &a.Body, d+n) })
	if !b.last {
		m.putK(api.ISlide, n)
	}
}

// without puts an alternative that has nothing of what was looked at.
func (m *maker) without(b *branches, a *api.CAlt, d int) {
	m.putK(api.IPop, 1)
	m.body(b, &a.Body, d)
}

// picks puts a CPick at depth d.
func (m *maker) picks(c *api.Core, d int, last bool) {
	b := m.choose(api.IPick, 0, last)
	m.enterElse(b)
	m.body(b, &c.Args[0], d)
	m.leave(b)
	for i := range c.Picks {
		m.enter(b, int64(c.Picks[i].Select))
		m.body(b, &c.Picks[i].Body, d)
		m.leave(b)
	}
	m.meet(b)
}
