package spool_test

import (
	"math"
	"slices"
	"strings"
	"testing"

	"changeling/api"
	"changeling/spool"
)

// fresh is a new spool, in which these things were put.
func fresh(t *testing.T, room int, things ...int) *spool.Spool[int] {
	t.Helper()
	s, e := spool.New[int](room)
	if s == nil || e != api.OK {
		t.Fatalf("New(%d): %v, %d", room, s, e)
	}
	for _, x := range things {
		if !s.Put(x) {
			t.Fatalf("Put(%d): false", x)
		}
	}
	return s
}

// holds asks for what is in a spool, by taking it all.
func holds(t *testing.T, s *spool.Spool[int], want ...int) {
	t.Helper()
	if s.Len() != len(want) {
		t.Errorf("Len: %d, not %d", s.Len(), len(want))
	}
	for _, x := range want {
		if got, ok := s.Take(); got != x || !ok {
			t.Errorf("Take: %d, %v, not %d", got, ok, x)
		}
	}
	if x, ok := s.Take(); x != 0 || ok {
		t.Errorf("Take of nothing: %d, %v", x, ok)
	}
}

// P3.1: New

func TestNew(t *testing.T) {
	for _, room := range []int{0, 1, 2, 3, 100, api.MaxSpool - 1, api.MaxSpool} {
		s := fresh(t, room)
		if !s.Open() || s.Len() != 0 || s.Room() != room {
			t.Errorf("New(%d): %v, %d, %d", room, s.Open(), s.Len(), s.Room())
		}
		holds(t, s)
	}
	for _, room := range []int{-1, -2, -api.MaxSpool, math.MinInt, api.MaxSpool + 1, 2 * api.MaxSpool, math.MaxInt} {
		if s, e := spool.New[int](room); s != nil || e != api.ErrArg {
			t.Errorf("New(%d): %v, %d", room, s, e)
		}
	}
}

func TestSpoolsAreTheirOwn(t *testing.T) {
	a, b := fresh(t, 2, 1), fresh(t, 2)
	if b.Len() != 0 || !a.Close() || !b.Open() || !b.Put(7) {
		t.Error("two spools share something")
	}
	holds(t, a, 1)
	holds(t, b, 7)
}

// P3.1: Put, Take

func TestExample(t *testing.T) {
	s := fresh(t, 2)
	if !s.Put(1) || !s.Put(2) || s.Put(3) {
		t.Error("Put(1), Put(2), Put(3): not true, true, false")
	}
	if !s.Close() {
		t.Error("Close: false")
	}
	holds(t, s, 1, 2)
}

func TestPut(t *testing.T) {
	for _, room := range []int{0, 1, 2, 5, api.MaxSpool} {
		s := fresh(t, room)
		for i := range room {
			if !s.Put(i) || s.Len() != i+1 {
				t.Fatalf("room %d: Put(%d): false", room, i)
			}
		}
		for range 3 {
			if s.Put(-1) || s.Len() != room {
				t.Errorf("room %d: Put into a full one: true", room)
			}
		}
		for i := range room {
			if x, ok := s.Take(); x != i || !ok {
				t.Fatalf("room %d: Take: %d, %v, not %d", room, x, ok, i)
			}
			if !s.Put(room+i) || s.Put(-1) {
				t.Fatalf("room %d: Put where one was taken", room)
			}
		}
		for i := range room {
			if x, ok := s.Take(); x != room+i || !ok {
				t.Fatalf("room %d: Take: %d, %v, not %d", room, x, ok, room+i)
			}
		}
		holds(t, s)
	}
}

func TestPutIntoAClosedOne(t *testing.T) {
	for _, room := range []int{0, 1, 2, 3} {
		for n := range room + 1 {
			s := fresh(t, room, make([]int, n)...)
			s.Close()
			if s.Put(9) || s.Len() != n {
				t.Errorf("room %d, %d in it, closed: Put: true", room, n)
			}
			s.Take()
			if s.Put(9) {
				t.Errorf("room %d, %d in it, closed, taken from: Put: true", room, n)
			}
		}
	}
}

func TestZeroesAreThings(t *testing.T) {
	s := fresh(t, 3, 0, 0)
	for range 2 {
		if x, ok := s.Take(); x != 0 || !ok {
			t.Errorf("Take: %d, %v, not 0, true", x, ok)
		}
	}
	if x, ok := s.Take(); x != 0 || ok {
		t.Errorf("Take: %d, %v, not 0, false", x, ok)
	}
}

func TestOfAnyType(t *testing.T) {
	texts, _ := spool.New[string](1)
	if x, ok := texts.Take(); x != "" || ok || !texts.Put("a") || texts.Put("b") {
		t.Error("texts")
	}
	empty, _ := spool.New[struct{}](2)
	if !empty.Put(struct{}{}) || !empty.Put(struct{}{}) || empty.Put(struct{}{}) || len(empty.Drain(9)) != 2 {
		t.Error("things without a size")
	}
	spools, _ := spool.New[*spool.Spool[string]](1)
	if x, ok := spools.Take(); x != nil || ok || !spools.Put(texts) {
		t.Error("spools")
	}
	if x, ok := spools.Take(); x != texts || !ok {
		t.Error("Take of a spool of spools")
	}
	lists, _ := spool.New[[]int](2)
	if !lists.Put(nil) || !lists.Put([]int{1}) {
		t.Error("lists")
	}
	if l := lists.Drain(2); len(l) != 2 || l[0] != nil || !slices.Equal(l[1], []int{1}) {
		t.Error("Drain of lists:", l)
	}
	anything, _ := spool.New[any](2)
	if !anything.Put(nil) || !anything.Put(1) {
		t.Error("anything")
	}
	if x, ok := anything.Take(); x != nil || !ok {
		t.Error("Take of anything:", x, ok)
	}
	functions, _ := spool.New[func() int](1)
	if !functions.Put(func() int { return 7 }) {
		t.Error("functions")
	}
	if f, ok := functions.Take(); !ok || f() != 7 {
		t.Error("Take of a function")
	}
}

// P3.1: Drain

func TestDrain(t *testing.T) {
	for _, c := range []struct{ most, want int }{
		{math.MinInt, 0}, {-7, 0}, {-1, 0}, {0, 0}, {1, 1}, {2, 2}, {3, 3}, {4, 3}, {5, 3}, {math.MaxInt, 3},
	} {
		for _, shut := range []bool{false, true} {
			s := fresh(t, 4, 5, 6, 7)
			if shut {
				s.Close()
			}
			if l := s.Drain(c.most); !slices.Equal(l, []int{5, 6, 7}[:c.want]) {
				t.Errorf("Drain(%d): %v", c.most, l)
			}
			if s.Open() == shut {
				t.Errorf("Drain(%d) opened or closed it", c.most)
			}
			holds(t, s, []int{5, 6, 7}[c.want:]...)
			if l := s.Drain(math.MaxInt); len(l) != 0 {
				t.Errorf("Drain of nothing: %v", l)
			}
		}
	}
}

func TestDrainIsNewMemory(t *testing.T) {
	s := fresh(t, 4, 1, 2, 3, 4)
	a, b := s.Drain(2), s.Drain(2)
	_ = append(a, 9, 9, 9, 9)
	a[0], a[1] = 9, 9
	if !slices.Equal(b, []int{3, 4}) {
		t.Error("two answers share memory:", b)
	}
}

// P3.2

func TestClose(t *testing.T) {
	for _, room := range []int{0, 1, 3} {
		s := fresh(t, room)
		for range 2 {
			if !s.Open() {
				t.Error("Open: false")
			}
		}
		if !s.Close() || s.Open() {
			t.Error("Close: it is open")
		}
		for range 3 {
			if s.Close() || s.Open() {
				t.Error("Close of a closed one: true")
			}
		}
	}
	s := fresh(t, 3, 1, 2)
	s.Close()
	if s.Len() != 2 || s.Room() != 3 {
		t.Error("closed:", s.Len(), s.Room())
	}
	holds(t, s, 1, 2)
	if s.Open() || s.Room() != 3 {
		t.Error("emptied:", s.Open(), s.Room())
	}
}

// P3.3

func TestMove(t *testing.T) {
	for _, c := range []struct {
		from []int
		room int
		to   []int
		most int
		want int
	}{
		{[]int{1, 2, 3}, 9, nil, 9, 3},
		{[]int{1, 2, 3}, 9, []int{4, 5}, 9, 3},
		{[]int{1, 2, 3}, 9, []int{4, 5}, 2, 2},
		{[]int{1, 2, 3}, 9, nil, 3, 3},
		{[]int{1, 2, 3}, 9, nil, 1, 1},
		{[]int{1, 2, 3}, 9, nil, 0, 0},
		{[]int{1, 2, 3}, 9, nil, -1, 0},
		{[]int{1, 2, 3}, 9, nil, math.MinInt, 0},
		{[]int{1, 2, 3}, 9, nil, math.MaxInt, 3},
		{[]int{1, 2, 3}, 4, []int{4, 5}, math.MaxInt, 2},
		{[]int{1, 2, 3}, 2, []int{4, 5}, 9, 0},
		{[]int{1, 2, 3}, 0, nil, 9, 0},
		{nil, 3, []int{4}, 9, 0},
		{nil, 0, nil, 9, 0},
	} {
		for _, shut := range []bool{false, true} {
			from, to := fresh(t, 5, c.from...), fresh(t, c.room, c.to...)
			if shut {
				from.Close()
			}
			if n := spool.Move(from, to, c.most); n != c.want {
				t.Errorf("Move(%v, %v of %d, %d): %d, not %d", c.from, c.to, c.room, c.most, n, c.want)
			}
			if from.Open() == shut || !to.Open() || to.Room() != c.room {
				t.Errorf("Move(%v, %v of %d, %d) opened or closed one", c.from, c.to, c.room, c.most)
			}
			holds(t, to, slices.Concat(c.to, c.from[:c.want])...)
			holds(t, from, c.from[c.want:]...)
		}
	}
}

func TestMoveIntoAClosedOne(t *testing.T) {
	from, to := fresh(t, 3, 1, 2), fresh(t, 3, 3)
	to.Close()
	if n := spool.Move(from, to, 9); n != 0 {
		t.Error("Move:", n)
	}
	from.Close()
	if n := spool.Move(from, to, 9); n != 0 {
		t.Error("Move from a closed one:", n)
	}
	holds(t, from, 1, 2)
	holds(t, to, 3)
}

func TestMoveToItself(t *testing.T) {
	for _, room := range []int{3, 4} {
		s := fresh(t, room, 1, 2, 3)
		for _, most := range []int{math.MinInt, -1, 0, 1, 2, math.MaxInt} {
			if n := spool.Move(s, s, most); n != 0 {
				t.Errorf("Move to itself, %d at most: %d", most, n)
			}
		}
		holds(t, s, 1, 2, 3)
	}
}

// P3.4

func TestNotGivenByNew(t *testing.T) {
	full := fresh(t, 3, 1, 2)
	half := *full
	shut := fresh(t, 3, 1, 2)
	shut.Close()
	gone := *shut
	for name, s := range map[string]*spool.Spool[int]{
		"nil": nil, "zero": {}, "new": new(spool.Spool[int]), "a copy": &half, "a closed one's copy": &gone,
	} {
		other := fresh(t, 3, 7)
		if s.Put(1) || s.Close() || s.Open() || s.Len() != 0 || s.Room() != 0 {
			t.Errorf("%s: it does something", name)
		}
		if x, ok := s.Take(); x != 0 || ok {
			t.Errorf("%s: Take: %d, %v", name, x, ok)
		}
		if l := s.Drain(9); len(l) != 0 {
			t.Errorf("%s: Drain: %v", name, l)
		}
		if spool.Move(s, other, 9) != 0 || spool.Move(other, s, 9) != 0 || spool.Move(s, s, 9) != 0 || spool.Move(nil, s, 9) != 0 || spool.Move(s, nil, 9) != 0 {
			t.Errorf("%s: it takes part in Move", name)
		}
		holds(t, other, 7)
	}
	holds(t, full, 1, 2)
	holds(t, shut, 1, 2)
	if !full.Open() || !full.Close() {
		t.Error("a copy's calls closed it")
	}
}

// P3.5, P3.6 and all others: each short row of calls, held against lists.

// list is what a spool must be.
type list struct {
	room   int
	things []int
	shut   bool
}

func (l *list) put(x int) bool {
	if l.shut || len(l.things) >= l.room {
		return false
	}
	l.things = append(l.things, x)
	return true
}

func (l *list) drain(most int) []int {
	n := max(0, min(most, len(l.things)))
	got := l.things[:n]
	l.things = l.things[n:]
	return got
}

func move(from, to *list, most int) int {
	if from == to || to.shut {
		return 0
	}
	got := from.drain(min(most, to.room-len(to.things)))
	to.things = append(to.things, got...)
	return len(got)
}

// call does one call on spools, and the same on lists; it tells whether both answer alike.
func call(c byte, x int, s [2]*spool.Spool[int], l [2]*list) bool {
	i := int(c & 1)
	switch c / 2 {
	case 0:
		return s[i].Put(x) == l[i].put(x)
	case 1:
		got, ok := s[i].Take()
		want := l[i].drain(1)
		return ok == (len(want) == 1) && (ok && got == want[0] || !ok && got == 0)
	case 2:
		was := !l[i].shut
		l[i].shut = true
		return s[i].Close() == was
	case 3:
		return spool.Move(s[i], s[1-i], 1) == move(l[i], l[1-i], 1)
	case 4:
		return spool.Move(s[i], s[1-i], 9) == move(l[i], l[1-i], 9)
	case 5:
		return spool.Move(s[i], s[i], 9) == 0
	}
	return slices.Equal(s[i].Drain(2), l[i].drain(2))
}

// calls is how many calls there are.
const calls = 14

// follow does a row of calls, what is put being numbered.
func follow(t *testing.T, row string, rooms [2]int) {
	t.Helper()
	s := [2]*spool.Spool[int]{fresh(t, rooms[0]), fresh(t, rooms[1])}
	l := [2]*list{{room: rooms[0]}, {room: rooms[1]}}
	for x := range row {
		if !call(row[x], x+1, s, l) {
			t.Fatalf("rooms %v, calls %v: the last of %d answers otherwise", rooms, []byte(row), x+1)
		}
		for i := range s {
			if s[i].Len() != len(l[i].things) || s[i].Room() != rooms[i] || s[i].Open() == l[i].shut || s[i].Len() > rooms[i] {
				t.Fatalf("rooms %v, calls %v: behind %d of them it is otherwise", rooms, []byte(row), x+1)
			}
		}
	}
	for i := range s {
		if got := s[i].Drain(99); !slices.Equal(got, l[i].things) {
			t.Fatalf("rooms %v, calls %v: %v is left, not %v", rooms, []byte(row), got, l[i].things)
		}
	}
}

func TestAllShortRowsOfCalls(t *testing.T) {
	var grow func(row string, n int)
	grow = func(row string, n int) {
		if n == 0 {
			for _, rooms := range [][2]int{{0, 1}, {1, 1}, {1, 2}, {2, 0}, {2, 3}} {
				follow(t, row, rooms)
			}
			return
		}
		for c := range byte(calls) {
			grow(row+string([]byte{c}), n-1)
		}
	}
	grow("", 4)
}

func TestLongRowsOfCalls(t *testing.T) {
	state := uint32(1)
	for range 3000 {
		var b strings.Builder
		for range 60 {
			state = state*1664525 + 1013904223
			// To close ends most of what can be: it is rare.
			if c := byte(state>>16) % calls; c/2 != 2 || state>>28 == 0 {
				b.WriteByte(c)
			}
		}
		follow(t, b.String(), [2]int{int(state>>8) % 6, int(state>>12) % 6})
	}
}

func TestMoveOfFullSpools(t *testing.T) {
	from, to := fresh(t, api.MaxSpool), fresh(t, api.MaxSpool)
	for i := range api.MaxSpool {
		from.Put(i)
	}
	if n := spool.Move(from, to, math.MaxInt); n != api.MaxSpool || from.Len() != 0 || to.Len() != api.MaxSpool {
		t.Fatal("Move of all:", n, from.Len(), to.Len())
	}
	for i, x := range to.Drain(math.MaxInt) {
		if x != i {
			t.Fatalf("%d was moved as number %d", x, i)
		}
	}
}
