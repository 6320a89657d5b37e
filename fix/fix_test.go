package fix_test

import (
	"math"
	"slices"
	"strings"
	"testing"

	"changeling/api"
	"changeling/fix"
)

const (
	none  = api.FixNone
	left  = api.FixLeft
	right = api.FixRight
)

// row is a row of operators: to each a letter n, l or r, and its level.
func row(s string) []api.Fix {
	var l []api.Fix
	for _, w := range strings.Fields(s) {
		l = append(l, api.Fix{Assoc: strings.IndexByte("nlr", w[0]), Level: int(w[1] - '0')})
	}
	return l
}

// resolve is Resolve where it must not fail.
func resolve(t *testing.T, l []api.Fix) []api.Span {
	t.Helper()
	spans, n, e := fix.Resolve(l)
	if n != 0 || e != api.OK || len(spans) != len(l) {
		t.Fatalf("Resolve(%.300v): %v, %d, %d", l, spans, n, e)
	}
	return spans
}

// fails asks for just this error, and nothing beside it.
func fails(t *testing.T, l []api.Fix, n int, e api.Errno) {
	t.Helper()
	if spans, m, err := fix.Resolve(l); len(spans) != 0 || m != n || err != e {
		t.Errorf("Resolve(%.300v): %v, %d, %d, not %d, %d", l, spans, m, err, n, e)
	}
}

// The chapter's words once more, as they stand: what Resolve answers is held against them.

// meet tells whether the operators i and j meet.
func meet(l []api.Fix, i, j int) bool {
	for _, f := range l[i+1 : j] {
		if f.Level <= l[i].Level {
			return false
		}
	}
	return l[i].Level == l[j].Level
}

// clash is the first operator that clashes with one ahead of it, if there is one.
func clash(l []api.Fix) (int, bool) {
	for j := range l {
		for i := range j {
			bothLeft := l[i].Assoc == left && l[j].Assoc == left
			bothRight := l[i].Assoc == right && l[j].Assoc == right
			if meet(l, i, j) && !bothLeft && !bothRight {
				return j, true
			}
		}
	}
	return 0, false
}

// group puts the spans of the operators from..to-1 into spans.
func group(l []api.Fix, spans []api.Span, from, to int) {
	if from == to {
		return
	}
	root := from
	for i := from; i < to; i++ {
		if l[i].Level < l[root].Level || l[i].Level == l[root].Level && l[i].Assoc == left {
			root = i
		}
	}
	spans[root] = api.Span{From: from, To: to}
	group(l, spans, from, root)
	group(l, spans, root+1, to)
}

// rows calls f with each row of n operators of all ways of binding at these levels.
func rows(n int, levels []int, l []api.Fix, f func([]api.Fix)) {
	if n == 0 {
		f(l)
		return
	}
	for _, level := range levels {
		for _, assoc := range []int{none, left, right} {
			rows(n-1, levels, append(l, api.Fix{Assoc: assoc, Level: level}), f)
		}
	}
}

// every calls f with many rows: all short ones, and longer ones of operators that seldom clash.
func every(f func([]api.Fix)) {
	for n := range 6 {
		rows(n, []int{0, 4, 9}, nil, f)
	}
	rows(6, []int{3, 5}, nil, f)
	state := uint32(7)
	next := func(n int) int {
		state = state*1664525 + 1013904223
		return int(state>>16) % n
	}
	for range 3000 {
		ways := []int{left, right, left, right, right, left, left, left, right, right}
		l := make([]api.Fix, next(40))
		for i := range l {
			level := next(10)
			l[i] = api.Fix{Level: level, Assoc: ways[level]}
			if next(40) == 0 {
				l[i].Assoc = next(3)
			}
		}
		f(l)
	}
}

// good calls f with those of them in which none clash, and with their spans.
func good(t *testing.T, f func([]api.Fix, []api.Span)) {
	count := 0
	every(func(l []api.Fix) {
		if spans, _, e := fix.Resolve(l); e == api.OK {
			count++
			f(l, spans)
		}
	})
	if count < 10000 {
		t.Fatalf("only %d rows in which none clash", count)
	}
}

// P5.1

func TestExamples(t *testing.T) {
	for _, c := range []struct {
		row  string
		want []api.Span
	}{
		{"l6 l7", []api.Span{{From: 0, To: 2}, {From: 1, To: 2}}},
		{"l6 l6", []api.Span{{From: 0, To: 1}, {From: 0, To: 2}}},
		{"r6 r6", []api.Span{{From: 0, To: 2}, {From: 1, To: 2}}},
		{"n4", []api.Span{{From: 0, To: 1}}},
		{"l7 l6 l7", []api.Span{{From: 0, To: 1}, {From: 0, To: 3}, {From: 2, To: 3}}},
		{"n4 l2 n4", []api.Span{{From: 0, To: 1}, {From: 0, To: 3}, {From: 2, To: 3}}},
		{"l9 r0 n4 r0 l9", []api.Span{{From: 0, To: 1}, {From: 0, To: 5}, {From: 2, To: 3}, {From: 2, To: 5}, {From: 4, To: 5}}},
		{"l9 l0 n4 l0 l9", []api.Span{{From: 0, To: 1}, {From: 0, To: 3}, {From: 2, To: 3}, {From: 0, To: 5}, {From: 4, To: 5}}},
		{"l6 r5 l6", []api.Span{{From: 0, To: 1}, {From: 0, To: 3}, {From: 2, To: 3}}},
		{"r6 l5 r6 l5 r6", []api.Span{{From: 0, To: 1}, {From: 0, To: 3}, {From: 2, To: 3}, {From: 0, To: 5}, {From: 4, To: 5}}},
	} {
		if got := resolve(t, row(c.row)); !slices.Equal(got, c.want) {
			t.Errorf("%s: %v, not %v", c.row, got, c.want)
		}
	}
}

func TestClashes(t *testing.T) {
	for _, c := range []struct {
		row string
		n   int
	}{
		{"n4 n4", 1}, {"n4 l4", 1}, {"l4 n4", 1}, {"n4 r4", 1}, {"r4 n4", 1}, {"l4 r4", 1}, {"r4 l4", 1},
		{"n4 l6 n4", 2}, {"n4 l5 l5 r9 l5 n4", 5}, {"l0 n9 l1 n9 r0", 4}, {"l6 l6 l6 r6 n6", 3}, {"r6 r6 r6 l6", 3},
		{"n4 n3 n4 n4", 3}, {"n4 l3 n4 l3 n4 l6 n4", 6}, {"l9 l8 l7 l6 n6 n7", 4}, {"n0 l1 l2 l3 l4 l3 l2 l1 n0", 8},
		{"l4 l6 r6 l4 r4", 2}, {"l4 r5 l5 r4", 2}, {"r4 l5 l5 l4", 3}, {"n0 n1 n2 n0 n1", 3},
	} {
		fails(t, row(c.row), c.n, api.ErrFix)
	}
	for _, s := range []string{"n4 l3 n4", "n4 n3 n4", "l4 l3 r4", "r4 l3 l4 n2 n4", "n9 n8 n7 n6 n5 n4 n3 n2 n1 n0", "n0 n1 n2 n3 n2", "n4 n5 n3 n5 n4"} {
		l := row(s)
		if _, is := clash(l); is {
			fails(t, l, len(l)-1, api.ErrFix)
			continue
		}
		resolve(t, l)
	}
}

// Operators clash across all that bind more tightly, however many they are.
func TestClashFarApart(t *testing.T) {
	for _, n := range []int{1, 2, 10, api.MaxOps - 2} {
		for _, between := range []string{"l5", "r5", "l9"} {
			l := slices.Concat(row("n4"), slices.Repeat(row(between), n), row("n4"))
			fails(t, l, n+1, api.ErrFix)
			l[1+n/2].Level = 3
			resolve(t, l)
			l[1+n/2].Level = 4
			l[1+n/2].Assoc = left
			fails(t, l, 1+n/2, api.ErrFix)
		}
	}
}

func TestNoOperators(t *testing.T) {
	for _, l := range [][]api.Fix{nil, {}} {
		if spans, n, e := fix.Resolve(l); len(spans) != 0 || n != 0 || e != api.OK {
			t.Errorf("Resolve of none: %v, %d, %d", spans, n, e)
		}
	}
}

func TestMayNotBe(t *testing.T) {
	for _, assoc := range []int{none, left, right} {
		for level := range 10 {
			resolve(t, []api.Fix{{Assoc: assoc, Level: level}})
		}
	}
	plus := fix.Default("+")
	for _, bad := range []api.Fix{
		{Assoc: -1, Level: 5}, {Assoc: 3, Level: 5}, {Assoc: math.MaxInt, Level: 5}, {Assoc: math.MinInt, Level: 5}, {Assoc: 1 << 32, Level: 5},
		{Assoc: left, Level: -1}, {Assoc: left, Level: 10}, {Assoc: right, Level: 11}, {Assoc: none, Level: math.MinInt}, {Assoc: none, Level: math.MaxInt}, {Assoc: left, Level: 1 << 32},
		{Op: "+", Assoc: -1, Level: -1, At: api.Pos{Line: 1, Col: 1}},
	} {
		fails(t, []api.Fix{bad}, 0, api.ErrArg)
		fails(t, []api.Fix{plus, plus, bad, plus}, 2, api.ErrArg)
		fails(t, []api.Fix{bad, bad}, 0, api.ErrArg)
		fails(t, []api.Fix{plus, bad, bad}, 1, api.ErrArg)
		// What may not be is told ahead of what clashes, even behind it.
		fails(t, slices.Concat(row("n4 n4 n4"), []api.Fix{bad}), 3, api.ErrArg)
	}
}

func TestLongRows(t *testing.T) {
	for _, s := range []string{"l6", "r6"} {
		full := slices.Repeat(row(s), api.MaxOps)
		for i, span := range resolve(t, full) {
			want := api.Span{From: 0, To: i + 1}
			if s == "r6" {
				want = api.Span{From: i, To: api.MaxOps}
			}
			if span != want {
				t.Fatalf("%s: operator %d: %v, not %v", s, i, span, want)
			}
		}
		fails(t, append(full, full[0]), 0, api.ErrLong)
		full[api.MaxOps-1].Level = 10
		fails(t, full, api.MaxOps-1, api.ErrArg)
		fails(t, append(full, full[0]), 0, api.ErrLong)
	}
	fails(t, slices.Repeat(row("n4"), api.MaxOps), 1, api.ErrFix)
	fails(t, slices.Repeat(row("n4"), api.MaxOps+1), 0, api.ErrLong)
	fails(t, make([]api.Fix, 1<<20), 0, api.ErrLong)
}

func TestAsTheWordsSay(t *testing.T) {
	every(func(l []api.Fix) {
		given := slices.Clone(l)
		if n, is := clash(l); is {
			fails(t, l, n, api.ErrFix)
		} else {
			want := make([]api.Span, len(l))
			group(l, want, 0, len(l))
			if got := resolve(t, l); !slices.Equal(got, want) {
				t.Fatalf("Resolve(%v): %v, not %v", l, got, want)
			}
		}
		if !slices.Equal(l, given) {
			t.Fatalf("Resolve changed %v to %v", given, l)
		}
	})
}

func TestTextsAndPlacesTurnNothing(t *testing.T) {
	l := row("l6 r5 l6 l7 n4 l9")
	want := resolve(t, l)
	for i := range l {
		l[i].Op = strings.Repeat("\xff", i)
		l[i].At = api.Pos{Line: -i, Col: math.MaxInt}
	}
	if got := resolve(t, l); !slices.Equal(got, want) {
		t.Errorf("with texts and places: %v, not %v", got, want)
	}
}

func TestSpansAreNewMemory(t *testing.T) {
	l := row("l6 l7 l6")
	a, b := resolve(t, l), resolve(t, l)
	want := slices.Clone(b)
	for i := range a {
		a[i] = api.Span{From: 99, To: 99}
	}
	if !slices.Equal(b, want) || !slices.Equal(resolve(t, l), want) {
		t.Error("two answers share memory")
	}
}

// P5.2

func TestDefault(t *testing.T) {
	known := map[string]api.Fix{
		"*": {Assoc: left, Level: 7}, "/": {Assoc: left, Level: 7}, "%": {Assoc: left, Level: 7}, "+": {Assoc: left, Level: 6}, "-": {Assoc: left, Level: 6},
		"==": {Assoc: none, Level: 4}, "/=": {Assoc: none, Level: 4}, "<": {Assoc: none, Level: 4}, "<=": {Assoc: none, Level: 4}, ">": {Assoc: none, Level: 4}, ">=": {Assoc: none, Level: 4},
	}
	texts := []string{"", " ", "+ ", " +", "x", "C", "mod", "0", "(", "->", "&&", "||", "\x00", "\xff", "===", "<=>", strings.Repeat("+", 1<<16)}
	for i := range 256 {
		texts = append(texts, string([]byte{byte(i)}))
		for j := range 256 {
			texts = append(texts, string([]byte{byte(i), byte(j)}))
		}
	}
	for _, s := range texts {
		want, is := known[s]
		if !is {
			want = api.Fix{Assoc: left, Level: 9}
		}
		want.Op = s
		if got := fix.Default(s); got != want {
			t.Errorf("Default(%.20q): %v, not %v", s, got, want)
		}
	}
}

func TestFind(t *testing.T) {
	first := api.Fix{Op: "+", Assoc: right, Level: 2, At: api.Pos{Line: 3, Col: 4}}
	l := []api.Fix{
		{Op: "&&", Assoc: right, Level: 3}, first, {Op: "+", Assoc: left, Level: 5}, {Op: "<", Assoc: 7, Level: -7}, {Op: "", Assoc: none, Level: 1},
	}
	given := slices.Clone(l)
	for op, want := range map[string]api.Fix{
		"+": first, "&&": l[0], "<": l[3], "": l[4],
		"-": fix.Default("-"), "==": fix.Default("=="), "&": fix.Default("&"), "&&&": fix.Default("&&&"), "++": fix.Default("++"), "x": fix.Default("x"),
	} {
		if got := fix.Find(l, op); got != want {
			t.Errorf("Find(%q): %v, not %v", op, got, want)
		}
	}
	for _, op := range []string{"", "+", "*", "<", "&&", "\xff"} {
		if got := fix.Find(nil, op); got != fix.Default(op) {
			t.Errorf("Find of none, %q: %v", op, got)
		}
	}
	if !slices.Equal(l, given) {
		t.Error("Find changed what it was given")
	}
}

// P5.3

// bounds are the first and the last operator of a span.
func bounds(s api.Span) (int, int) { return s.From, s.To - 1 }

func TestSpansAreNested(t *testing.T) {
	good(t, func(l []api.Fix, spans []api.Span) {
		whole := 0
		for i, a := range spans {
			if a.From > i || a.To < i+1 {
				t.Fatalf("%v: operator %d spans %v", l, i, a)
			}
			if a == (api.Span{From: 0, To: len(l)}) {
				whole++
			}
			for j, b := range spans[:i] {
				within := a.From >= b.From && a.To <= j || a.From >= j+1 && a.To <= b.To || b.From >= a.From && b.To <= i || b.From >= i+1 && b.To <= a.To
				apart := a.To < b.From || b.To < a.From
				if within == apart {
					t.Fatalf("%v: operators %d and %d span %v and %v", l, j, i, b, a)
				}
			}
		}
		if len(l) > 0 && whole != 1 {
			t.Fatalf("%v: %d operators span all", l, whole)
		}
	})
}

// P5.4

func TestWithinBindsMoreTightly(t *testing.T) {
	good(t, func(l []api.Fix, spans []api.Span) {
		for i, s := range spans {
			first, last := bounds(s)
			for j := first; j <= last; j++ {
				side := left
				if j > i {
					side = right
				}
				asTightly := l[j].Level == l[i].Level && l[i].Assoc == side && l[j].Assoc == side
				if j != i && l[j].Level <= l[i].Level && !asTightly {
					t.Fatalf("%v: operator %d lies within %d", l, j, i)
				}
			}
		}
	})
}

// P5.5

func TestOfOneLevel(t *testing.T) {
	for n := range 40 {
		for level := range 10 {
			for i, s := range resolve(t, slices.Repeat([]api.Fix{{Assoc: left, Level: level}}, n)) {
				if s != (api.Span{From: 0, To: i + 1}) {
					t.Fatalf("%d to the left: operator %d spans %v", n, i, s)
				}
			}
			for i, s := range resolve(t, slices.Repeat([]api.Fix{{Assoc: right, Level: level}}, n)) {
				if s != (api.Span{From: i, To: n}) {
					t.Fatalf("%d to the right: operator %d spans %v", n, i, s)
				}
			}
		}
	}
}

// P5.6

func TestLeastPartsTheRow(t *testing.T) {
	good(t, func(l []api.Fix, spans []api.Span) {
		for i := range l {
			less := func(f api.Fix) bool { return f.Level <= l[i].Level }
			if slices.ContainsFunc(l[:i], less) || slices.ContainsFunc(l[i+1:], less) {
				continue
			}
			if spans[i] != (api.Span{From: 0, To: len(l)}) {
				t.Fatalf("%v: operator %d binds least, and spans %v", l, i, spans[i])
			}
			if !slices.Equal(spans[:i], resolve(t, l[:i])) {
				t.Fatalf("%v: what is ahead of operator %d is grouped otherwise than alone", l, i)
			}
			for j, s := range resolve(t, l[i+1:]) {
				if spans[i+1+j] != (api.Span{From: s.From + i + 1, To: s.To + i + 1}) {
					t.Fatalf("%v: what is behind operator %d is grouped otherwise than alone", l, i)
				}
			}
		}
	})
}
