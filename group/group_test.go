package group_test

import (
	"reflect"
	"slices"
	"strings"
	"testing"

	"changeling/api"
	"changeling/group"
	"changeling/parse"
)

func same(t *testing.T, got, want any) {
	t.Helper()
	if !reflect.DeepEqual(got, want) {
		t.Errorf("%v, not %v", got, want)
	}
}

// row is a row of things, each by the digits of what it uses.
func row(texts ...string) [][]int {
	var l [][]int
	for _, s := range texts {
		l = append(l, digits(s))
	}
	return l
}

func digits(s string) []int {
	var l []int
	for _, c := range s {
		l = append(l, int(c-'0'))
	}
	return l
}

// written are groups by their digits.
func written(l [][]int) string {
	var texts []string
	for _, g := range l {
		s := ""
		for _, n := range g {
			s += string(rune('0' + n))
		}
		texts = append(texts, s)
	}
	return strings.Join(texts, " ")
}

// P11.1

func TestGroups(t *testing.T) {
	for _, c := range []struct {
		uses [][]int
		want string
	}{
		{nil, ""},
		{[][]int{}, ""},
		{row(""), "0"},
		{row("0"), "0"},
		{row("1", "02", ""), "2 01"}, // the document's example
		{row("", "", ""), "0 1 2"},
		{row("1", "2", ""), "2 1 0"},
		{row("2", "", "1"), "1 2 0"},
		{row("1", "2", "0"), "012"},
		{row("2", "0", "1"), "012"},
		{row("1", "0", "3", "2"), "01 23"},
		{row("12", "0", "3", "2"), "23 01"},
		{row("111", "1", "11"), "1 0 2"},
		// The one with the least number of those that may be next: not that one's needs first.
		{row("3", "", "", ""), "1 2 3 0"},
		{row("2", "", "3", ""), "1 3 2 0"},
		{row("4", "", "1", "", "3"), "1 2 3 4 0"},
		{row("", "3", "", ""), "0 2 3 1"},
		{row("5", "", "4", "", "2", "1"), "1 24 3 5 0"},
		{row("5", "6", "", "6", "", "0", "1"), "05 16 2 3 4"},
		{row("5", "4", "0", "", "3", "0"), "05 2 3 4 1"},
		// Groups within what others need.
		{row("1", "2", "3", "1", "0"), "123 0 4"},
		{row("1", "2", "3", "1", "0", "4"), "123 0 4 5"},
		{row("12", "3", "4", "0", ""), "4 2 013"},
		{row("1", "2", "03", "4", "5", "3"), "345 012"},
		{row("3", "0", "1", "2", "3", "4", "5"), "0123 4 5 6"},
		{row("13", "02", "1", "4", "5", "6", "3"), "3456 012"},
		{row("76543210", "", "", "", "", "", "", ""), "1 2 3 4 5 6 7 0"},
		{row("", "0", "01", "012", "0123"), "0 1 2 3 4"},
		{row("1234", "234", "34", "4", ""), "4 3 2 1 0"},
	} {
		l, err := group.Groups(c.uses)
		same(t, err, api.OK)
		if written(l) != c.want {
			t.Errorf("%v: %s, not %s", c.uses, written(l), c.want)
		}
	}
}

func TestWrongNumbers(t *testing.T) {
	for _, uses := range [][][]int{
		{{1}}, {{-1}}, {{0, 1}}, {{}, {0, 1, 2}}, {{1 << 40}, {}}, {{}, {-1 << 63}}, {{}, {}, {}, {4, 0}}, {{}, {1, 0, 1<<63 - 1}},
	} {
		l, err := group.Groups(uses)
		same(t, len(l), 0)
		same(t, err, api.ErrArg)
		for _, from := range []int{-1, 0, 1, 7} {
			l, err := group.Reach(uses, from)
			same(t, len(l), 0)
			same(t, err, api.ErrArg)
		}
	}
}

// things are so many, each using what it is told.
func things(n int, uses func(i int) []int) [][]int {
	l := make([][]int, n)
	for i := range l {
		l[i] = uses(i)
	}
	return l
}

func TestTooMany(t *testing.T) {
	none := func(int) []int { return nil }
	wrong := func(int) []int { return []int{-1} }
	for _, uses := range [][][]int{things(api.MaxTokens+1, none), things(api.MaxTokens+1, wrong), things(1<<17, none)} {
		l, err := group.Groups(uses)
		same(t, len(l), 0)
		same(t, err, api.ErrLong)
		for _, from := range []int{-1, 0, 1 << 20} {
			l, err := group.Reach(uses, from)
			same(t, len(l), 0)
			same(t, err, api.ErrLong)
		}
	}
	l, err := group.Groups(things(api.MaxTokens, none))
	same(t, len(l), api.MaxTokens)
	same(t, err, api.OK)
	_, err = group.Groups(things(api.MaxTokens, wrong))
	same(t, err, api.ErrArg)
}

// As many as may be, in rows and rings, and each using all.
func TestGreatest(t *testing.T) {
	const n = api.MaxTokens
	var all []int
	for i := range n {
		all = append(all, i)
	}
	for _, c := range []struct {
		uses   func(i int) []int
		groups int
		first  int
		reach  int // how many the first one and the last one need
		last   int
	}{
		{func(i int) []int { return all[min(i+1, n-1):min(i+2, n)] }, n, n - 1, n - 1, 1},
		{func(i int) []int { return all[max(i-1, 0):i] }, n, 0, 0, n - 1},
		{func(i int) []int { return []int{(i + 1) % n} }, 1, 0, n, n},
		{func(i int) []int { return []int{(i + n - 1) % n} }, 1, 0, n, n},
		{func(i int) []int { return all }, 1, 0, n, n},
		{func(i int) []int { return all[i+1:] }, n, n - 1, n - 1, 0},
		{func(i int) []int { return all[:i] }, n, 0, 0, n - 1},
		{func(i int) []int { return all[i/2*2 : i/2*2+2] }, n / 2, 0, 2, 2},
	} {
		uses := things(n, c.uses)
		l, err := group.Groups(uses)
		same(t, err, api.OK)
		same(t, len(l), c.groups)
		same(t, l[0][0], c.first)
		same(t, slices.Sorted(slices.Values(slices.Concat(l...))), all)
		for from, want := range map[int]int{0: c.reach, n - 1: c.last} {
			l, err := group.Reach(uses, from)
			same(t, err, api.OK)
			same(t, len(l), want)
		}
	}
}

// P11.2

func TestReach(t *testing.T) {
	for _, c := range []struct {
		uses [][]int
		from int
		want string
	}{
		{row(""), 0, ""},
		{row("0"), 0, "0"},
		{row("1", "02", ""), 0, "012"},
		{row("1", "02", ""), 1, "012"},
		{row("1", "02", ""), 2, ""},
		{row("1", "2", ""), 0, "12"},
		{row("1", "2", ""), 1, "2"},
		{row("", "0", "1"), 2, "01"},
		{row("33", "", "1", "212", "5", "4"), 0, "123"},
		{row("33", "", "1", "212", "5", "4"), 4, "45"},
		{row("4321", "", "", "", ""), 0, "1234"},
	} {
		l, err := group.Reach(c.uses, c.from)
		same(t, err, api.OK)
		same(t, written([][]int{l}), c.want)
	}
	for _, uses := range [][][]int{nil, row(""), row("1", "0")} {
		for _, from := range []int{-1, len(uses), len(uses) + 1, 1 << 40, -1 << 63} {
			l, err := group.Reach(uses, from)
			same(t, len(l), 0)
			same(t, err, api.ErrArg)
		}
	}
}

// P11.3

func binds(t *testing.T, source string) []api.Bind {
	t.Helper()
	p, fault := parse.Program(source)
	if fault.Err != api.OK {
		t.Fatal(fault)
	}
	return p.Binds
}

func TestBinds(t *testing.T) {
	for source, want := range map[string]string{
		"":                                "",
		"f = 1":                           "0",
		"f = f":                           "0",
		"f x = g x\ng x = f x + h\nh = 2": "2 01",
		"f = g\ng = h\nh = 1":             "2 1 0",
		"f g = g\ng = f\nh = g h":         "0 1 2",
		"f = \\g -> g\ng = f":             "0 1",
		"f = let { g = g } in g\ng = f":   "0 1",
		"f = let { x = g } in x\ng = f":   "01",
		"f = case g of { g -> g }\ng = 1": "1 0",
		"f x | g = 1\n    | True = h\ng = 1\nh = 1":            "1 2 0",
		"f 0 = g\nf (C g) = g\ng = 1":                          "1 0",
		"f 0 = 1\nf (C g) = g\ng = 1":                          "0 1",
		"a = G c\nb = a\nc = if b then 1 else 2\nd = e\ne = 3": "012 4 3",
		"a = x + y\nb = 1":                                     "0 1",
	} {
		if got := written(group.Binds(binds(t, source))); got != want {
			t.Errorf("%s: %s, not %s", source, got, want)
		}
	}
}

// Of several of one name the first one is meant.
func TestOneName(t *testing.T) {
	l := binds(t, "f = g\ng = 1\nh = f\nk = h")
	l[2].Name = "g"
	same(t, written(group.Binds(l)), "1 0 2 3")
	l[1].Name, l[2].Name = "x", "g"
	same(t, written(group.Binds(l)), "02 1 3")
	l[3].Name = "f"
	same(t, written(group.Binds(l)), "02 1 3")
	for i := range l {
		l[i].Name = "h"
	}
	same(t, written(group.Binds(l)), "0 1 2 3")
}

// An operator is a name like others; a binding that may not be uses nothing, and is used.
func TestOddBinds(t *testing.T) {
	l := binds(t, "f = g + 1\ng = 1\nh = g")
	l[2].Name = "+"
	same(t, written(group.Binds(l)), "1 2 0")
	l[1].Clauses = nil
	l[1].Name = "+"
	same(t, written(group.Binds(l)), "1 0 2")
	l = binds(t, "a = b\nb = a\nc = b")
	l[1].Clauses[0].Rhs = nil
	same(t, written(group.Binds(l)), "1 0 2")
	same(t, written(group.Binds(make([]api.Bind, 3))), "0 1 2")
}

func TestTooManyBinds(t *testing.T) {
	one := binds(t, "f = f")[0]
	l := slices.Repeat([]api.Bind{one}, api.MaxTokens)
	same(t, len(group.Binds(l)), api.MaxTokens)
	same(t, len(group.Binds(append(l, one))), 0)
	same(t, len(group.Binds(make([]api.Bind, 1<<17))), 0)
}

// Rule 3

func TestNothingIsShared(t *testing.T) {
	uses := row("1", "02", "", "4", "3", "543210")
	want := row("1", "02", "", "4", "3", "543210")
	for range 2 {
		l, _ := group.Groups(uses)
		same(t, written(l), "2 01 34 5")
		for _, g := range l {
			_ = append(g, 77)
			g[0] = 99
		}
		same(t, l, [][]int{{99}, {99, 1}, {99, 4}, {99}})
		r, _ := group.Reach(uses, 5)
		same(t, r, digits("012345"))
		for i := range r {
			r[i] = 99
		}
		same(t, uses, want)
	}
	source := "f x = g x\ng x = f x + h\nh = 2"
	b := binds(t, source)
	for range 2 {
		l := group.Binds(b)
		same(t, written(l), "2 01")
		l[1][0], l[1][1], l[0][0] = 9, 9, 9
		same(t, b, binds(t, source))
	}
}

// P1

func TestDeepBinds(t *testing.T) {
	e := api.Expr{Kind: api.EVar, Name: "g"}
	for range 1 << 16 {
		e = api.Expr{Kind: api.EApp, Args: []api.Expr{e, {Kind: api.EInt}}}
	}
	l := binds(t, "f = 1\ng = 1")
	l[0].Clauses[0].Rhs[0].Body = e
	same(t, written(group.Binds(l)), "1 0")
}
