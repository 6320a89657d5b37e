package gm_test

import (
	"fmt"
	"slices"
	"testing"

	"changeling/api"
	"changeling/code"
	"changeling/num"
)

// The machine by the chapter's words done once more: cells are a map, and what is over is a panic.

// ended is the panic of an outcome.
type ended int

// spot is a frame.
type spot struct {
	code        []api.Instr
	place, base int
}

type again struct {
	codes    []api.Code
	cons     []api.Con
	budget   api.Budget
	selector int
	cells    map[int]api.Node
	globals  []int
	taken    int // since it was last collected
	stack    []int
	frames   []spot
	at       spot
	unwinds  bool
	told     []api.Node
	steps    int
	over     int
}

// onceMore is a machine at first.
func onceMore(t *testing.T, l []api.Super, cons []api.Con, e api.Core, selector int, b api.Budget) *again {
	t.Helper()
	codes, err := code.Compile(l, cons)
	first, err2 := code.Start(e, l, cons)
	if err != api.OK || err2 != api.OK {
		t.Fatal(err, err2)
	}
	m := &again{codes: codes, cons: cons, budget: b, selector: selector, cells: map[int]api.Node{}, at: spot{code: first.Ops}}
	m.until(func() {
		for i := range codes {
			m.globals = append(m.globals, m.cell(api.Node{Tag: api.NGlob, N: int64(i)}))
		}
	})
	return m
}

// until does something until there is an outcome.
func (m *again) until(do func()) {
	defer func() {
		if x := recover(); x != nil {
			kind, ok := x.(ended)
			if !ok {
				panic(x)
			}
			m.over = int(kind)
		}
	}()
	do()
}

func (m *again) step() bool {
	if m.over == 0 {
		m.until(func() {
			if m.steps+1 > m.budget.Fuel {
				panic(ended(api.OutFuel))
			}
			m.steps++
			if m.unwinds {
				m.unwind()
			} else {
				m.follows()
			}
		})
	}
	return m.over == 0
}

func (m *again) out() api.Out {
	switch m.over {
	case 0:
		return api.Out{}
	case api.OutValue:
		x, rest := m.term(m.told)
		if len(rest) > 0 {
			panic("more than one term")
		}
		return api.Out{Kind: m.over, Term: x, Steps: m.steps}
	}
	return api.Out{Kind: m.over, Steps: m.steps}
}

// term is the first term of what was told, and the rest of that.
func (m *again) term(told []api.Node) (api.Term, []api.Node) {
	n, told := told[0], told[1:]
	switch n.Tag {
	case api.NInt:
		return api.Term{N: n.N}, told
	case api.NCon:
		x := api.Term{Con: m.cons[n.N].Name}
		for range m.cons[n.N].Fields {
			var field api.Term
			field, told = m.term(told)
			x.Args = append(x.Args, field)
		}
		return x, told
	}
	return api.Term{Con: "->"}, told
}

// cell is the cell that a node is put into.
func (m *again) cell(n api.Node) int {
	if m.budget.Every > 0 && m.taken == m.budget.Every {
		m.collect()
	}
	if len(m.cells) == m.budget.Heap {
		m.collect()
	}
	if len(m.cells) == m.budget.Heap {
		panic(ended(api.OutHeap))
	}
	m.taken++
	for a := 0; ; a++ {
		if _, there := m.cells[a]; !there {
			m.cells[a] = n
			return a
		}
	}
}

func (m *again) collect() {
	m.taken = 0
	kept := map[int]api.Node{}
	var keep func(a int)
	keep = func(a int) {
		if _, there := kept[a]; there {
			return
		}
		n, there := m.cells[a]
		if !there {
			panic(fmt.Sprint("no node at ", a))
		}
		kept[a] = n
		for _, to := range n.L {
			keep(to)
		}
	}
	for _, a := range slices.Concat(m.globals, m.stack) {
		keep(a)
	}
	m.cells = kept
}

func (m *again) room() {
	if len(m.stack)+len(m.frames) >= m.budget.Stack {
		panic(ended(api.OutStack))
	}
}

func (m *again) push(a int) {
	m.room()
	m.stack = append(m.stack, a)
}

// takeOff is what was on top.
func (m *again) takeOff() int {
	a := m.top(0)
	m.stack = slices.Clone(m.stack[:len(m.stack)-1])
	return a
}

func (m *again) top(below int) int { return m.stack[len(m.stack)-1-below] }

func (m *again) on(below int) api.Node { return m.cells[m.top(below)] }

func (m *again) followed(a int) int {
	if n := m.cells[a]; n.Tag == api.NInd {
		return m.followed(n.L[0])
	}
	return a
}

func (m *again) unwind() {
	n := m.on(0)
	switch n.Tag {
	case api.NApp:
		m.push(n.L[0])
	case api.NInd:
		m.stack[len(m.stack)-1] = n.L[0]
	case api.NHole:
		panic(ended(api.OutLoop))
	case api.NInt, api.NCon:
		m.back(m.top(0))
	case api.NGlob:
		above := m.stack[m.at.base+1:]
		takes := m.codes[n.N].Arity
		if len(above) < takes {
			m.back(m.stack[m.at.base])
			return
		}
		root := m.top(takes)
		var args []int // the last one first
		for i := takes; i > 0; i-- {
			args = append(args, m.on(i).L[1])
		}
		m.stack = append(slices.Clone(m.stack[:len(m.stack)-takes]), args...)
		m.cells[root] = api.Node{Tag: api.NHole}
		m.at.code, m.at.place, m.unwinds = m.codes[n.N].Ops, 0, false
	default:
		panic("no such node")
	}
}

func (m *again) back(a int) {
	m.stack = append(slices.Clone(m.stack[:m.at.base]), a)
	m.at = m.frames[len(m.frames)-1]
	m.frames = slices.Clone(m.frames[:len(m.frames)-1])
	m.unwinds = false
}

// follows does the instruction that follows.
func (m *again) follows() {
	i := m.at.code[m.at.place]
	m.at.place++
	switch i.Op {
	case api.IPush:
		m.push(m.top(i.K))
	case api.IGlob:
		m.push(m.globals[i.K])
	case api.IInt:
		m.push(m.cell(api.Node{Tag: api.NInt, N: i.N}))
	case api.IApply:
		a := m.cell(api.Node{Tag: api.NApp, L: []int{m.top(0), m.top(1)}})
		m.takeOff()
		m.takeOff()
		m.push(a)
	case api.IUpdate:
		if a := m.followed(m.takeOff()); a != m.top(i.K) {
			m.cells[m.top(i.K)] = api.Node{Tag: api.NInd, L: []int{a}}
		}
	case api.IPop:
		for range i.K {
			m.takeOff()
		}
	case api.ISlide:
		a := m.takeOff()
		for range i.K {
			m.takeOff()
		}
		m.push(a)
	case api.IAlloc:
		for range i.K {
			m.push(m.cell(api.Node{Tag: api.NHole}))
		}
	case api.IPack:
		n := api.Node{Tag: api.NCon, N: i.N}
		for j := range i.K {
			n.L = append(n.L, m.top(j))
		}
		a := m.cell(n)
		for range i.K {
			m.takeOff()
		}
		m.push(a)
	case api.IEval:
		m.room()
		m.frames = append(m.frames, m.at)
		m.at.base, m.unwinds = len(m.stack)-1, true
	case api.IUnwind:
		m.unwinds = true
	case api.IJump:
		m.at.place = i.K
	case api.IPick:
		m.at.place = m.leads(i, int64(m.selector))
	case api.IAgain:
		if len(m.stack) == 0 {
			panic(ended(api.OutValue))
		}
		m.at.place = i.K
	default:
		m.looks(i)
	}
}

// looks does an instruction that looks at nodes, or fails.
func (m *again) looks(i api.Instr) {
	switch n := m.on(0); i.Op {
	case api.ISplit:
		if n.Tag != api.NCon || len(n.L) != i.K {
			panic(ended(api.OutMatch))
		}
		m.fields(m.takeOff())
	case api.ICase:
		m.at.place = i.K
		if n.Tag == api.NCon || n.Tag == api.NInt {
			m.at.place = m.leads(i, n.N)
		}
		if m.at.place < 0 {
			panic(ended(api.OutMatch))
		}
	case api.IPrim:
		below := m.on(1)
		if n.Tag != api.NInt || below.Tag != api.NInt {
			panic(ended(api.OutMatch))
		}
		is, err := num.Do(int(i.N), below.N, n.N)
		if err == api.ErrZero {
			panic(ended(api.OutZero))
		}
		m.takeOff()
		m.takeOff()
		if num.Rel(int(i.N)) {
			name := []string{"False", "True"}[is]
			place := slices.IndexFunc(m.cons, func(c api.Con) bool { return c.Name == name })
			m.push(m.cell(api.Node{Tag: api.NCon, N: int64(place)}))
		} else {
			m.push(m.cell(api.Node{Tag: api.NInt, N: is}))
		}
	case api.IFail:
		panic(ended(api.OutMatch))
	case api.IForce:
		m.told = append(m.told, n)
		if a := m.takeOff(); n.Tag == api.NCon {
			m.fields(a)
		}
	default:
		panic("no such instruction")
	}
}

// fields pushes the fields of a node, the last one first.
func (m *again) fields(a int) {
	for _, field := range slices.Backward(m.cells[a].L) {
		m.push(field)
	}
}

func (m *again) leads(i api.Instr, key int64) int {
	for _, j := range i.Jumps {
		if j.Key == key {
			return j.To
		}
	}
	return i.K
}

// together has a machine, and one by the words done once more, make their steps beside each other: it is all the same.
func together(t *testing.T, l []api.Super, cons []api.Con, e api.Core, selector int, b api.Budget) api.Out {
	t.Helper()
	m, w := started(t, loadedOf(t, l, cons), e, selector, b), onceMore(t, l, cons, e, selector, b)
	for {
		got := [...]int{m.Steps(), m.Depth(), m.Frames(), m.Live(), m.Out().Kind}
		if want := [...]int{w.steps, len(w.stack), len(w.frames), len(w.cells), w.over}; got != want {
			t.Fatal(got, want, b, selector)
		}
		if goes := w.step(); m.Step() != goes {
			t.Fatal(got, goes, b, selector)
		}
		if w.over != 0 && w.over == m.Out().Kind {
			break
		}
	}
	got := [...]int{m.Steps(), m.Depth(), m.Frames(), m.Live()}
	if want := [...]int{w.steps, len(w.stack), len(w.frames), len(w.cells)}; got != want {
		t.Fatal(got, want, b, selector)
	}
	same(t, b, m.Out(), w.out())
	return w.out()
}

// asked is what is asked of a program.
type asked struct {
	l        []api.Super
	e        api.Core
	selector int
}

// at is what it comes to with a budget.
func (a asked) at(t *testing.T, b api.Budget) api.Out {
	t.Helper()
	return together(t, a.l, knownCons(), a.e, a.selector, b)
}

// P18.4, P18.5: what is to be seen with all budgets that are just enough, or less, or more.
func TestAllBudgets(t *testing.T) {
	t.Parallel()
	l := supers(`m = (first (drop 2 (from 1)))
from #0 = (C #0 (from (prim + #0 1)))
drop #0 #1 = (case #0 (0 : #1) (_ : (case #1 (C #2 #3 : (drop (prim - #0 1) #3)) (_ : fail))))
first #0 = (case #0 (C #1 #2 : #1))
n = (let (#0 (C 1 #1)) (#1 (T 2 #0 #2)) (#2 N) (case #1 (T #3 #4 #5 : (P (prim < #3 5) (first #4)))))
s = (pick (sum 3) (1 : (sum (prim / 1 0))) (2 : (case N (C #0 #1 : 1))))
sum #0 = (case #0 (0 : 0) (_ : (prim + #0 (sum (prim - #0 1)))))
x = (+ x 1)
`)
	for _, a := range []asked{
		{l, expr("m"), 0}, {l, expr("n"), 0}, {l, expr("s"), 0}, {l, expr("s"), 1}, {l, expr("s"), 2}, {l, expr("x"), 0}, {l, expr("(T first (P 1 n) (C s))"), 3},
	} {
		o := a.at(t, wide)
		heap := a.least(t, o, api.OutHeap, api.Budget{Fuel: o.Steps, Stack: 100}, func(b *api.Budget, n int) { b.Heap = n })
		stack := a.least(t, o, api.OutStack, api.Budget{Fuel: o.Steps, Heap: 1000}, func(b *api.Budget, n int) { b.Stack = n })
		fuel := a.least(t, o, api.OutFuel, api.Budget{Heap: heap, Stack: stack}, func(b *api.Budget, n int) { b.Fuel = n })
		same(t, a, fuel, o.Steps)
		for every := range 50 {
			same(t, a, a.at(t, api.Budget{Fuel: fuel, Heap: 1000, Stack: stack, Every: every}), o)
			if got := a.at(t, api.Budget{Fuel: fuel, Heap: heap, Stack: stack, Every: every}); got.Kind != api.OutHeap {
				same(t, a, got, o)
			}
			a.at(t, api.Budget{Fuel: fuel, Heap: heap - 1 - every%3, Stack: stack, Every: every})
		}
	}
}

// least is how much of something is just enough: with less of it there is none, with more it makes no difference.
func (a asked) least(t *testing.T, o api.Out, none int, b api.Budget, turn func(*api.Budget, int)) int {
	t.Helper()
	n := 1
	for ; ; n++ {
		turn(&b, n)
		got := a.at(t, b)
		if got.Kind != none {
			break
		}
		if got.Steps > o.Steps || n > 1000 {
			t.Fatal(got, o, b)
		}
	}
	for more := range 40 {
		turn(&b, n+more)
		same(t, b, a.at(t, b), o)
	}
	return n
}

// Programs that were made, be they well-typed or not, with budgets of all sizes.
func TestMade(t *testing.T) {
	t.Parallel()
	for _, careless := range []bool{false, true} {
		m := &making{chain: 7, careless: careless}
		all := map[string]int{}
		for i := range 500 {
			l := lifted(t, m.defs(1+i%4, 2+i%5))
			for _, e := range m.asks() {
				globals := len(l) + most
				b := api.Budget{Fuel: 1 + m.pick(600), Heap: globals + m.pick(60), Stack: 1 + m.pick(60), Every: m.pick(5) * m.pick(9)}
				if m.pick(3) == 0 {
					b = api.Budget{Fuel: 1000, Heap: globals + 300, Stack: 300, Every: m.pick(100)}
				}
				o := asked{l, expr(e), m.pick(3)}.at(t, b)
				all[kindText(o.Kind)]++
			}
		}
		for what, least := range map[string]int{"value": 500, "match": 60, "zero": 8, "loop": 100, "fuel": 60, "heap": 60, "stack": 60} {
			if all[what] < least {
				t.Error(careless, what, all)
			}
		}
	}
}
