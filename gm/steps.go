package gm

import (
	"slices"

	"changeling/api"
	"changeling/num"
)

// unwind makes a step, where it unwinds.
func (s *state) unwind() bool {
	top := s.below(0)
	n := s.node(top)
	switch n.Tag {
	case api.NApp:
		return s.push(n.L[0])
	case api.NInd:
		s.replace(n.L[0])
	case api.NHole:
		return s.over(api.OutLoop)
	case api.NGlob:
		s.global(&s.program.codes[n.N])
	default:
		s.back(top)
	}
	return true
}

// global enters a global that is on top, if it has its arguments.
func (s *state) global(c *api.Code) {
	n, top := c.Arity, len(s.stack)-1
	if top-s.base < n {
		s.back(s.stack[s.base])
		return
	}
	for i := range n {
		at := top - i
		s.stack[at] = s.node(s.stack[at-1]).L[1]
	}
	s.heap.Set(s.stack[top-n], api.Node{Tag: api.NHole})
	s.ops, s.place, s.unwinds = c.Ops, 0, false
}

// back goes back with an address to where it was asked for.
func (s *state) back(a int) {
	s.stack = append(s.stack[:s.base], a)
	last := len(s.frames) - 1
	s.frame, s.frames = s.frames[last], s.frames[:last]
	s.unwinds = false
}

// instruction makes a step by the instruction at its place.
func (s *state) instruction() bool {
	i := &s.ops[s.place]
	s.place++
	switch i.Op {
	case api.IPush:
		return s.push(s.below(i.K))
	case api.IGlob:
		return s.push(s.globals[i.K])
	case api.IInt:
		return s.build(api.Node{Tag: api.NInt, N: i.N}, 0)
	case api.IApply:
		return s.build(api.Node{Tag: api.NApp, L: s.upper(2)}, 2)
	case api.IPop:
		s.pop(i.K)
	case api.ISlide:
		s.slide(i.K)
	case api.IAlloc:
		return s.holes(i.K)
	case api.IPack:
		return s.build(api.Node{Tag: api.NCon, N: i.N, L: s.upper(i.K)}, i.K)
	case api.IUpdate:
		s.update(i.K)
	case api.IEval:
		return s.eval()
	case api.IUnwind:
		s.unwinds = true
	case api.ISplit:
		return s.split(i.K)
	case api.ICase:
		return s.choose(i)
	case api.IPrim:
		return s.prim(int(i.N))
	case api.IFail:
		return s.over(api.OutMatch)
	case api.IPick:
		s.place = lead(i, int64(s.selector))
	case api.IJump:
		s.place = i.K
	case api.IForce:
		return s.force()
	case api.IAgain:
		return s.again(i.K)
	}
	return true
}

// slide takes away what stands below the top.
func (s *state) slide(k int) {
	top := s.below(0)
	s.pop(k)
	s.replace(top)
}

// holes pushes new holes.
func (s *state) holes(k int) bool {
	for range k {
		if !s.build(api.Node{Tag: api.NHole}, 0) {
			return false
		}
	}
	return true
}

// update has a node mean what is on top. One that would mean itself stays as it is.
func (s *state) update(k int) {
	a := s.follow(s.below(0))
	s.pop(1)
	if at := s.below(k); at != a {
		s.heap.Set(at, api.Node{Tag: api.NInd, L: []int{a}})
	}
}

// eval asks for what is on top, and notes where to go on then.
func (s *state) eval() bool {
	if s.full() {
		return s.over(api.OutStack)
	}
	s.frames = append(s.frames, s.frame)
	s.base = len(s.stack) - 1
	s.unwinds = true
	return true
}

// split pushes the fields of what is on top in its place.
func (s *state) split(k int) bool {
	n := s.node(s.below(0))
	if n.Tag != api.NCon || len(n.L) != k {
		return s.over(api.OutMatch)
	}
	return s.fields(n)
}

// fields pushes a node's fields in its place, so that the first one is on top.
func (s *state) fields(n api.Node) bool {
	s.pop(1)
	slices.Reverse(n.L)
	return s.push(n.L...)
}

// choose goes on where a case leads to by what is on top.
func (s *state) choose(i *api.Instr) bool {
	s.place = i.K
	if n := s.node(s.below(0)); n.Tag == api.NCon || n.Tag == api.NInt {
		s.place = lead(i, n.N)
	}
	if s.place == -1 {
		return s.over(api.OutMatch)
	}
	return true
}

// lead is where a choice leads to for a key.
func lead(i *api.Instr, key int64) int {
	to := i.K
search:
	for _, j := range i.Jumps {
		switch j.Key {
		case key:
			to = j.To
			break search
		}
	}
	return to
}

// prim does an operator. Its result points to nothing: what was asked for goes before that takes a cell.
func (s *state) prim(op int) bool {
	a, b := s.node(s.below(1)), s.node(s.below(0))
	if a.Tag != api.NInt || b.Tag != api.NInt {
		return s.over(api.OutMatch)
	}
	n, err := num.Do(op, a.N, b.N)
	if err != api.OK {
		return s.over(api.OutZero)
	}
	s.pop(2)
	if num.Rel(op) {
		return s.build(api.Node{Tag: api.NCon, N: s.program.truths[n]}, 0)
	}
	return s.build(api.Node{Tag: api.NInt, N: n}, 0)
}
