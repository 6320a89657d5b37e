package heap_test

import (
	"math"
	"reflect"
	"slices"
	"testing"

	"changeling/api"
	"changeling/heap"
)

func same(t *testing.T, what, got, want any) {
	t.Helper()
	if !reflect.DeepEqual(got, want) {
		t.Errorf("%v: %v, not %v", what, got, want)
	}
}

func made(t *testing.T, capacity int) *heap.Heap {
	t.Helper()
	h, err := heap.New(capacity)
	if h == nil || err != api.OK {
		t.Fatal(capacity, err)
	}
	return h
}

// node is a node with a number and pointers.
func node(n int64, l ...int) api.Node { return api.Node{Tag: api.NCon, N: n, L: l} }

func alloc(t *testing.T, h *heap.Heap, n api.Node, want int) {
	t.Helper()
	a, err := h.Alloc(n)
	if a != want || err != api.OK {
		t.Fatalf("Alloc of %v: %d, %v, not %d", n, a, err, want)
	}
}

func refused(t *testing.T, h *heap.Heap, n api.Node, want api.Errno) {
	t.Helper()
	live, allocs := h.Live(), h.Allocs()
	if a, err := h.Alloc(n); a != 0 || err != want {
		t.Errorf("Alloc of %v: %d, %v, not %v", n, a, err, want)
	}
	counts(t, h, live, allocs)
}

func set(t *testing.T, h *heap.Heap, a int, n api.Node, want api.Errno) {
	t.Helper()
	live, allocs := h.Live(), h.Allocs()
	if err := h.Set(a, n); err != want {
		t.Errorf("Set of %d, %v: %v, not %v", a, n, err, want)
	}
	counts(t, h, live, allocs)
}

func collect(t *testing.T, h *heap.Heap, gone int, roots ...int) {
	t.Helper()
	live, allocs := h.Live(), h.Allocs()
	if n, err := h.Collect(roots); n != gone || err != api.OK {
		t.Errorf("Collect of %v: %d, %v, not %d", roots, n, err, gone)
	}
	counts(t, h, live-gone, allocs)
}

func counts(t *testing.T, h *heap.Heap, live, allocs int) {
	t.Helper()
	if h.Live() != live || h.Allocs() != allocs {
		t.Errorf("Live, Allocs: %d, %d, not %d, %d", h.Live(), h.Allocs(), live, allocs)
	}
}

// has tells which cells have nodes, by their numbers (-1: none), from 0 on.
func has(t *testing.T, h *heap.Heap, want ...int64) {
	t.Helper()
	var got []int64
	for a := range h.Cap() {
		n, ok := h.Get(a)
		if !ok {
			same(t, a, n, api.Node{})
			n.N = -1
		}
		got = append(got, n.N)
	}
	if !slices.Equal(got, want) {
		t.Errorf("%v, not %v", got, want)
	}
}

// P16.1

func TestNew(t *testing.T) {
	for capacity, want := range map[int]bool{
		math.MinInt: false, -1: false, 0: false, 1: true, 2: true, 255: true, 256: true, 257: true, 1<<24 - 1: true, 1 << 24: true, 1<<24 + 1: false, 1 << 32: false, math.MaxInt: false,
	} {
		h, err := heap.New(capacity)
		if !want {
			same(t, capacity, err, api.ErrArg)
			same(t, capacity, h == nil, true)
			continue
		}
		same(t, capacity, err, api.OK)
		same(t, capacity, h.Cap(), capacity)
		counts(t, h, 0, 0)
		for _, a := range []int{math.MinInt, -1, 0, 1, capacity - 1, capacity, math.MaxInt} {
			n, ok := h.Get(a)
			same(t, a, n, api.Node{})
			same(t, a, ok, false)
			set(t, h, a, api.Node{}, api.ErrAddr)
			refused(t, h, node(1, a), api.ErrAddr)
		}
		collect(t, h, 0)
		alloc(t, h, node(1), 0)
		same(t, capacity, h.Cap(), capacity)
	}
}

func TestExample(t *testing.T) {
	h := made(t, 2)
	alloc(t, h, api.Node{}, 0)
	alloc(t, h, api.Node{}, 1)
	refused(t, h, api.Node{}, api.ErrFull)
	collect(t, h, 1, 1)
	alloc(t, h, api.Node{}, 0)
	refused(t, h, api.Node{}, api.ErrFull)
	counts(t, h, 2, 3)
}

func TestAlloc(t *testing.T) {
	h := made(t, 4)
	// Nothing is asked of a node but its pointers.
	alloc(t, h, api.Node{Tag: -7, N: math.MinInt64, L: []int{}}, 0)
	refused(t, h, node(1, 1), api.ErrAddr) // that would be its own cell
	refused(t, h, node(1, 0, 1), api.ErrAddr)
	refused(t, h, node(1, 2, 0), api.ErrAddr)
	refused(t, h, node(1, -1), api.ErrAddr)
	refused(t, h, node(1, 4), api.ErrAddr)
	refused(t, h, node(1, math.MaxInt), api.ErrAddr)
	refused(t, h, node(1, 0, 0, math.MinInt), api.ErrAddr)
	alloc(t, h, node(1, 0, 0, 0), 1)
	alloc(t, h, node(2, 1, 0, 1), 2)
	alloc(t, h, node(3, slices.Repeat([]int{2, 1}, 999)...), 3)
	// The pointers are looked at first.
	refused(t, h, node(1, 4), api.ErrAddr)
	refused(t, h, node(1, 0, -1), api.ErrAddr)
	refused(t, h, node(1, 0), api.ErrFull)
	refused(t, h, node(1), api.ErrFull)
	counts(t, h, 4, 4)
	has(t, h, math.MinInt64, 1, 2, 3)
	collect(t, h, 3, 0)
	refused(t, h, node(1, 1), api.ErrAddr)
	refused(t, h, node(1, 3), api.ErrAddr)
	alloc(t, h, node(5, 0), 1)
	counts(t, h, 2, 5)
}

func TestSet(t *testing.T) {
	h := made(t, 4)
	set(t, h, 0, node(1), api.ErrAddr)
	alloc(t, h, node(1), 0)
	alloc(t, h, node(2, 0), 1)
	set(t, h, 0, node(3, 0), api.OK) // to itself
	set(t, h, 0, node(4, 1, 0), api.OK)
	set(t, h, 1, node(5, 0, 1, 0), api.OK)
	for _, a := range []int{math.MinInt, -1, 2, 3, 4, math.MaxInt} {
		set(t, h, a, node(6), api.ErrAddr)
		set(t, h, a, node(6, a), api.ErrAddr)
		set(t, h, 0, node(6, a), api.ErrAddr)
		set(t, h, 0, node(6, 1, a), api.ErrAddr)
		set(t, h, 1, node(6, a, 1), api.ErrAddr)
	}
	has(t, h, 4, 5, -1, -1)
	n, ok := h.Get(1)
	same(t, "node", n, node(5, 0, 1, 0))
	same(t, "node", ok, true)
	// What nothing points to any more still stands, till it is collected.
	set(t, h, 0, api.Node{}, api.OK)
	set(t, h, 1, node(7), api.OK)
	has(t, h, 0, 7, -1, -1)
	collect(t, h, 1, 0)
	set(t, h, 1, node(8), api.ErrAddr)
	set(t, h, 0, node(8, 1), api.ErrAddr)
	has(t, h, 0, -1, -1, -1)
}

// P16.2

func TestCollect(t *testing.T) {
	h := made(t, 7)
	for i := range 7 {
		alloc(t, h, node(int64(i)), i)
	}
	set(t, h, 1, node(1, 3, 5), api.OK)
	set(t, h, 3, node(3, 1), api.OK)
	set(t, h, 4, node(4, 6, 1), api.OK) // it leads to others, but nothing leads to it
	// A wrong root: nothing is free that was not, wherever it stands.
	for _, a := range []int{math.MinInt, -1, 7, math.MaxInt} {
		for _, roots := range [][]int{{a}, {a, 0}, {0, a}, {1, a, 2}} {
			n, err := h.Collect(roots)
			same(t, roots, n, 0)
			same(t, roots, err, api.ErrAddr)
			counts(t, h, 7, 7)
		}
	}
	has(t, h, 0, 1, 2, 3, 4, 5, 6)
	collect(t, h, 0, 0, 1, 2, 3, 4, 5, 6)
	collect(t, h, 3, 3, 2, 3, 2, 2) // a root twice
	has(t, h, -1, 1, 2, 3, -1, 5, -1)
	collect(t, h, 0, 3, 2) // P16.6
	n, err := h.Collect([]int{3, 4})
	same(t, "free", n, 0)
	same(t, "free", err, api.ErrAddr)
	has(t, h, -1, 1, 2, 3, -1, 5, -1)
	one, _ := h.Get(1)
	same(t, "node", one, node(1, 3, 5))
	// The least free ones first.
	alloc(t, h, node(10), 0)
	alloc(t, h, node(11, 5), 4)
	alloc(t, h, node(12), 6)
	refused(t, h, node(13), api.ErrFull)
	collect(t, h, 3, 1, 4)
	alloc(t, h, node(14), 0)
	alloc(t, h, node(15), 2)
	collect(t, h, 5, 2)
	has(t, h, -1, -1, 15, -1, -1, -1, -1)
	alloc(t, h, node(16, 2), 0)
	alloc(t, h, node(17, 0), 1)
	alloc(t, h, node(18), 3)
	collect(t, h, 4)
	collect(t, h, 0)
	has(t, h, -1, -1, -1, -1, -1, -1, -1)
	alloc(t, h, node(19), 0)
	counts(t, h, 1, 16)
	same(t, "capacity", h.Cap(), 7)
}

func TestRings(t *testing.T) {
	for _, n := range []int{1, 2, 3, 255, 256, 257, 1000} {
		h := made(t, 2*n+1)
		for i := range 2 * n {
			alloc(t, h, node(int64(i)), i)
		}
		// Two rings, the even ones and the odd ones.
		for i := range 2 * n {
			set(t, h, i, node(int64(i), (i+2)%(2*n)), api.OK)
		}
		collect(t, h, 0, 2*n-1, 0)
		collect(t, h, n, 2*n-1)
		for i := range 2 * n {
			m, ok := h.Get(i)
			if ok != (i%2 == 1) || ok && !reflect.DeepEqual(m, node(int64(i), (i+2)%(2*n))) {
				t.Fatal(n, i, m, ok)
			}
		}
		for i := range n {
			alloc(t, h, node(0, 1), 2*i)
		}
		alloc(t, h, node(0), 2*n)
		refused(t, h, node(0), api.ErrFull)
		collect(t, h, n+1, 1)
		collect(t, h, n)
	}
}

// P16.3, P16.4: as many as there are, in a row, the longest of all.
func TestLongRows(t *testing.T) {
	t.Parallel()
	const many = api.MaxCells
	h := made(t, many)
	for i := range many {
		n := api.Node{Tag: api.NInd, N: int64(i)}
		if i > 0 {
			n.L = []int{i - 1}
		}
		if a, err := h.Alloc(n); a != i || err != api.OK {
			t.Fatal(i, a, err)
		}
	}
	refused(t, h, node(0, 5), api.ErrFull)
	refused(t, h, node(0, many), api.ErrAddr)
	collect(t, h, 0, many-1)
	collect(t, h, many/2, many/2-1)
	n, ok := h.Get(many/2 - 1)
	same(t, "last", n, api.Node{Tag: api.NInd, N: many/2 - 1, L: []int{many/2 - 2}})
	same(t, "last", ok, true)
	_, ok = h.Get(many / 2)
	same(t, "behind", ok, false)
	refused(t, h, node(0, many/2), api.ErrAddr)
	alloc(t, h, node(0, many/2-1), many/2)
	set(t, h, 0, node(0, many/2), api.OK) // a ring
	collect(t, h, 0, 77)
	collect(t, h, many/2+1)
	alloc(t, h, node(0), 0)
	counts(t, h, 1, many+2)
}

// One node may have very many pointers, and many nodes ones to one.
func TestWideNodes(t *testing.T) {
	const many = 1 << 12
	h := made(t, 2*many+1)
	var all []int
	for i := range many {
		alloc(t, h, node(int64(i)), i)
		all = append(all, i)
	}
	for i := range many {
		alloc(t, h, node(int64(i), all...), many+i)
	}
	alloc(t, h, node(9, slices.Concat(all, all)...), 2*many)
	collect(t, h, many, 2*many)
	alloc(t, h, node(5), many)
	collect(t, h, many+1, many)
	has(t, h, slices.Concat(slices.Repeat([]int64{-1}, many), []int64{5}, slices.Repeat([]int64{-1}, many))...)
}

// A nil heap, and one that New did not give.

func TestNil(t *testing.T) {
	var none *heap.Heap
	a, err := none.Alloc(node(1))
	same(t, "Alloc", a, 0)
	same(t, "Alloc", err, api.ErrNil)
	_, err = none.Alloc(node(1, -1))
	same(t, "Alloc", err, api.ErrNil)
	same(t, "Set", none.Set(0, node(1)), api.ErrNil)
	same(t, "Set", none.Set(-1, node(1, 0)), api.ErrNil)
	for _, roots := range [][]int{nil, {}, {0}, {-1}} {
		n, err := none.Collect(roots)
		same(t, "Collect", n, 0)
		same(t, "Collect", err, api.ErrNil)
	}
	n, ok := none.Get(0)
	same(t, "Get", n, api.Node{})
	same(t, "Get", ok, false)
	same(t, "Live", none.Live(), 0)
	same(t, "Cap", none.Cap(), 0)
	same(t, "Allocs", none.Allocs(), 0)
}

func TestNotNew(t *testing.T) {
	given := made(t, 3)
	alloc(t, given, node(1), 0)
	copied := *given
	for _, h := range []*heap.Heap{{}, &copied} {
		same(t, "Cap", h.Cap(), 0)
		refused(t, h, node(1), api.ErrFull)
		refused(t, h, node(1, 0), api.ErrAddr)
		set(t, h, 0, node(1), api.ErrAddr)
		collect(t, h, 0)
		n, err := h.Collect([]int{0})
		same(t, "Collect", n, 0)
		same(t, "Collect", err, api.ErrAddr)
		_, ok := h.Get(0)
		same(t, "Get", ok, false)
		counts(t, h, 0, 0)
	}
	has(t, given, 1, -1, -1)
	counts(t, given, 1, 1)
}

// What is handed in is not kept, what is answered is new.

func TestNewMemory(t *testing.T) {
	h := made(t, 5)
	for i := range 4 {
		alloc(t, h, node(int64(i)), i)
	}
	l := append(make([]int, 0, 9), 0, 1)
	alloc(t, h, node(4, l...), 4)
	l[0], l[1] = 3, 77
	_ = append(l, 5)
	n, _ := h.Get(4)
	same(t, "Alloc", n, node(4, 0, 1))
	l = append(make([]int, 0, 9), 2, 1)
	set(t, h, 4, node(4, l...), api.OK)
	l[0] = -1
	n, _ = h.Get(4)
	same(t, "Set", n, node(4, 2, 1))
	n.L[0], n.L[1] = 0, 99
	_ = append(n.L[:1], 7, 7)
	again, _ := h.Get(4)
	same(t, "Get", again, node(4, 2, 1))
	same(t, "Get", again.L, []int{2, 1})
	roots := append(make([]int, 0, 9), 4)
	collect(t, h, 2, roots...)
	same(t, "roots", roots[:9], []int{4, 0, 0, 0, 0, 0, 0, 0, 0})
	has(t, h, -1, 1, 2, -1, 4)
	// One list in two nodes.
	l = []int{1, 2}
	alloc(t, h, node(0, l...), 0)
	set(t, h, 1, node(1, l...), api.OK)
	n, _ = h.Get(0)
	n.L[0] = 0
	one, _ := h.Get(1)
	same(t, "both", one, node(1, 1, 2))
	// A node without pointers has none, whatever stood there.
	set(t, h, 1, node(1), api.OK)
	one, _ = h.Get(1)
	same(t, "none", len(one.L), 0)
}
