package heap_test

import (
	"slices"
	"testing"

	"changeling/api"
	"changeling/heap"
)

// The chapter's words done once more: all cells, as they are.

type words struct {
	cells  []*api.Node
	allocs int
}

func (w *words) has(l ...int) bool {
	for _, a := range l {
		if a < 0 || a >= len(w.cells) || w.cells[a] == nil {
			return false
		}
	}
	return true
}

func (w *words) alloc(n api.Node) (int, api.Errno) {
	if !w.has(n.L...) {
		return 0, api.ErrAddr
	}
	for a, c := range w.cells {
		if c == nil {
			w.cells[a] = &n
			w.allocs++
			return a, api.OK
		}
	}
	return 0, api.ErrFull
}

func (w *words) set(a int, n api.Node) api.Errno {
	if !w.has(a) || !w.has(n.L...) {
		return api.ErrAddr
	}
	w.cells[a] = &n
	return api.OK
}

// collect asks again and again which cells something leads to, until that turns nothing.
func (w *words) collect(roots []int) (int, api.Errno) {
	if !w.has(roots...) {
		return 0, api.ErrAddr
	}
	leads := make([]bool, len(w.cells))
	for _, a := range roots {
		leads[a] = true
	}
	for turned := true; turned; {
		turned = false
		for a, c := range w.cells {
			for b := range w.cells {
				if c != nil && leads[a] && !leads[b] && slices.Contains(c.L, b) {
					leads[b], turned = true, true
				}
			}
		}
	}
	gone := 0
	for a, c := range w.cells {
		if c != nil && !leads[a] {
			w.cells[a] = nil
			gone++
		}
	}
	return gone, api.OK
}

// both are a heap and the words, side by side.
type both struct {
	h *heap.Heap
	w *words
}

// state is how many cells have nodes, once it is known that all is told as the words have it.
func (b both) state(t *testing.T) int {
	live := 0
	for a := -1; a <= len(b.w.cells); a++ {
		n, ok := b.h.Get(a)
		var want api.Node
		if b.w.has(a) {
			want = *b.w.cells[a]
		}
		if ok != b.w.has(a) || n.Tag != want.Tag || n.N != want.N || !slices.Equal(n.L, want.L) {
			t.Fatal(a, n, ok, b.w.cells)
		}
		for _, p := range n.L { // P16.5
			if _, ok := b.h.Get(p); !ok {
				t.Fatal(a, n)
			}
		}
		if ok {
			live++
		}
	}
	if b.h.Live() != live || b.h.Cap() != len(b.w.cells) || b.h.Allocs() != b.w.allocs {
		t.Fatal(b.h.Live(), b.h.Cap(), b.h.Allocs(), b.w)
	}
	return live
}

// call is a call with arguments by their numbers.
type call struct {
	what, a int
	l       []int
}

type answer struct {
	n   int
	err api.Errno
}

func (b both) do(t *testing.T, c call, n int64) {
	t.Helper()
	var got, want answer
	switch c.what {
	case 0:
		got.n, got.err = b.h.Alloc(node(n, c.l...))
		want.n, want.err = b.w.alloc(node(n, c.l...))
	case 1:
		got.err = b.h.Set(c.a, node(n, c.l...))
		want.err = b.w.set(c.a, node(n, c.l...))
	case 2:
		got.n, got.err = b.h.Collect(c.l)
		want.n, want.err = b.w.collect(c.l)
		if more, _ := b.h.Collect(c.l); more != 0 { // P16.6
			t.Fatal(c, more)
		}
	}
	if got != want {
		t.Fatal(c, got, want, b.w)
	}
	b.state(t)
}

func paired(t *testing.T, capacity int) both {
	t.Helper()
	return both{made(t, capacity), &words{cells: make([]*api.Node, capacity)}}
}

// All rows of five calls of some, of heaps of one cell, of two and of three.
func TestAllRows(t *testing.T) {
	t.Parallel()
	calls := []call{
		{0, 0, nil}, {0, 0, []int{0}}, {0, 0, []int{1, 0}}, {0, 0, []int{2}},
		{1, 0, []int{0}}, {1, 0, []int{1}}, {1, 1, []int{0, 2}}, {1, 2, nil}, {1, 0, nil},
		{2, 0, nil}, {2, 0, []int{1}}, {2, 0, []int{2, 0}}, {2, 0, []int{0}},
	}
	for capacity := 1; capacity <= 3; capacity++ {
		rows := 1
		for range 5 {
			rows *= len(calls)
		}
		for row := range rows {
			b := paired(t, capacity)
			for i := range 5 {
				b.do(t, calls[row%len(calls)], int64(i))
				row /= len(calls)
			}
		}
	}
}

// chain makes choices, always the same.
type chain uint32

func (c *chain) pick(n int) int {
	*c = *c*1664525 + 1013904223
	return int(*c>>16) % n
}

// Long rows of calls of heaps of all kinds of sizes; mostly with addresses of cells that have nodes.
func TestLongRowsOfCalls(t *testing.T) {
	c := chain(5)
	all := map[int]int{}
	for row := range 400 {
		capacity := 1 + c.pick(1+row%20)
		if row%100 == 0 {
			capacity = 600
		}
		b := paired(t, capacity)
		address := func() int {
			for range 4 {
				if a := c.pick(capacity); b.w.has(a) {
					return a
				}
			}
			return c.pick(capacity+2) - 1
		}
		pointers := func(most int) []int {
			var l []int
			for range c.pick(most) {
				l = append(l, address())
			}
			return l
		}
		for i := range 60 + capacity {
			next := call{c.pick(3), address(), pointers(4)}
			if next.what == 2 && c.pick(4) > 0 || capacity == 600 && i < 650 && i%300 > 0 {
				next.what = 0
			}
			b.do(t, next, int64(i))
		}
		all[b.state(t)]++
	}
	if len(all) < 15 {
		t.Error(all)
	}
}
