package gm

import (
	"slices"

	"changeling/api"
	"changeling/heap"
)

// going is the outcome's Kind as long as there is none.
const going = 0

// frame is where a code stands: at which place, and where the stack stood.
type frame struct {
	ops         []api.Instr
	place, base int
}

// state is what a machine has; its own code, place and base are the frame in it.
type state struct {
	frame
	program  *Program
	selector int
	budget   api.Budget
	heap     *heap.Heap
	globals  []int // the addresses of their nodes
	taken    int   // how many cells, since it was last collected
	stack    []int
	frames   []frame
	unwinds  bool
	told     []said
	steps    int
	outcome  int
}

// begin is a machine at first.
func begin(p *Program, first []api.Instr, selector int, b api.Budget) *state {
	s := &state{frame: frame{ops: first}, program: p, selector: selector, budget: b}
	s.heap, _ = heap.New(b.Heap)
	for n := range p.codes {
		a, ok := s.take(api.Node{Tag: api.NGlob, N: int64(n)})
		if !ok {
			break
		}
		s.globals = append(s.globals, a)
	}
	return s
}

// step makes a step. Each part of one tells whether it is not over then.
func (s *state) step() bool {
	switch {
	case s.outcome != going:
		return false
	case s.steps == s.budget.Fuel:
		return s.over(api.OutFuel)
	}
	s.steps++
	if s.unwinds {
		return s.unwind()
	}
	return s.instruction()
}

func (s *state) over(outcome int) bool {
	s.outcome = outcome
	return false
}

// push pushes addresses, one after the other.
func (s *state) push(l ...int) bool {
	for _, a := range l {
		if s.full() {
			return s.over(api.OutStack)
		}
		s.stack = append(s.stack, a)
	}
	return true
}

// full tells whether nothing more can be pushed, be it an address or a frame.
func (s *state) full() bool {
	return len(s.stack)+len(s.frames) >= s.budget.Stack
}

// pop takes so many things off the stack.
func (s *state) pop(k int) {
	s.stack = s.stack[:len(s.stack)-k]
}

// replace puts an address in the place of what is on top.
func (s *state) replace(a int) {
	s.stack[len(s.stack)-1] = a
}

// below is what stands so many below the top.
func (s *state) below(k int) int {
	return s.stack[len(s.stack)-1-k]
}

// upper are so many things, from the top down.
func (s *state) upper(k int) []int {
	l := slices.Clone(s.stack[len(s.stack)-k:])
	slices.Reverse(l)
	return l
}

// build pushes a new node in the place of the upper k things. They stand there until the node does: it may point to them.
func (s *state) build(n api.Node, k int) bool {
	a, ok := s.take(n)
	if !ok {
		return false
	}
	s.pop(k)
	return s.push(a)
}

// take puts a node into a cell.
func (s *state) take(n api.Node) (int, bool) {
	if s.budget.Every > 0 && s.taken >= s.budget.Every {
		s.collect()
	}
	a, err := s.heap.Alloc(n)
	if err == api.ErrFull {
		s.collect()
		a, err = s.heap.Alloc(n)
	}
	if err != api.OK {
		return 0, s.over(api.OutHeap)
	}
	s.taken++
	return a, true
}

func (s *state) collect() {
	s.heap.Collect(slices.Concat(s.stack, s.globals))
	s.taken = 0
}

// node is the node at an address that the machine has.
func (s *state) node(a int) api.Node {
	n, _ := s.heap.Get(a)
	return n
}

// follow leads to what is meant by a node.
func (s *state) follow(a int) int {
	n := s.node(a)
	for n.Tag == api.NInd {
		a = n.L[0]
		n = s.node(a)
	}
	return a
}
