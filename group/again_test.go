package group_test

import (
	"fmt"
	"reflect"
	"slices"
	"testing"

	"changeling/api"
	"changeling/group"
	"changeling/scope"
)

// The chapter's words once more: what needs what, by all of them; the next group is looked for among all that do not stand yet.

// needs tells of each two things whether one needs the other one.
func needs(uses [][]int) [][]bool {
	need := make([][]bool, len(uses))
	for i, l := range uses {
		need[i] = make([]bool, len(uses))
		for _, n := range l {
			need[i][n] = true
		}
	}
	for k := range uses {
		for i := range uses {
			for j := range uses {
				need[i][j] = need[i][j] || need[i][k] && need[k][j]
			}
		}
	}
	return need
}

func together(need [][]bool, i, j int) bool { return i == j || need[i][j] && need[j][i] }

// wanted are the groups, in the order in which they are to stand.
func wanted(uses [][]int) [][]int {
	need := needs(uses)
	stands := make([]bool, len(uses))
	var l [][]int
	for range uses {
		next := -1 // the least number in a group that may be next
		for i := len(uses) - 1; i >= 0; i-- {
			may := !stands[i]
			for j := range uses {
				may = may && (!need[i][j] || together(need, i, j) || stands[j])
			}
			if may {
				next = i
			}
		}
		if next < 0 {
			continue
		}
		var g []int
		for j := range uses {
			if together(need, next, j) {
				g = append(g, j)
				stands[j] = true
			}
		}
		l = append(l, g)
	}
	return l
}

// held holds groups and what is reached against the words.
func held(t *testing.T, uses [][]int) {
	l, err := group.Groups(uses)
	if want := wanted(uses); err != api.OK || !slices.EqualFunc(l, want, slices.Equal) {
		t.Fatalf("%v: %v %d, not %v", uses, l, err, want)
	}
	need := needs(uses)
	for from := range uses {
		var want []int
		for n, is := range need[from] {
			if is {
				want = append(want, n)
			}
		}
		if l, err := group.Reach(uses, from); err != api.OK || !slices.Equal(l, want) {
			t.Fatalf("%v from %d: %v %d, not %v", uses, from, l, err, want)
		}
	}
}

// bits are the numbers of a number's bits that are set.
func bits(x, n int) []int {
	var l []int
	for i := range n {
		if x>>i&1 == 1 {
			l = append(l, i)
		}
	}
	return l
}

// P11.1, P11.2

// All that up to four things may use.
func TestAllShortRows(t *testing.T) {
	for n := range 5 {
		for x := range 1 << (n * n) {
			held(t, things(n, func(i int) []int { return bits(x>>(i*n), n) }))
		}
	}
}

// chain makes choices, always the same.
type chain uint32

func (c *chain) pick(n int) int {
	*c = *c*1664525 + 1013904223
	return int(*c>>16) % n
}

// row is a row of so many things, each of which uses few.
func (c *chain) row(n int) [][]int {
	most := 1 + c.pick(4)
	return things(n, func(int) []int {
		var l []int
		for range c.pick(most + 1) {
			l = append(l, c.pick(n))
		}
		return l
	})
}

func TestManyRows(t *testing.T) {
	c := chain(1)
	sizes := map[int]int{}
	for range 20000 {
		uses := c.row(5 + c.pick(12))
		held(t, uses)
		l, _ := group.Groups(uses)
		sizes[len(l)]++
	}
	if len(sizes) < 14 || sizes[1] < 50 || sizes[8] < 50 {
		t.Error(sizes)
	}
	for range 20 {
		held(t, c.row(150+c.pick(50)))
	}
}

// A number that is none, wherever it stands.
func TestWrongNumbersAnywhere(t *testing.T) {
	c := chain(2)
	for range 5000 {
		uses := c.row(1 + c.pick(9))
		i := c.pick(len(uses))
		wrong := []int{-1 - c.pick(3), len(uses) + c.pick(3)}[c.pick(2)]
		uses[i] = slices.Insert(uses[i], c.pick(len(uses[i])+1), wrong)
		l, err := group.Groups(uses)
		same(t, len(l), 0)
		same(t, err, api.ErrArg)
		l1, err := group.Reach(uses, c.pick(len(uses)))
		same(t, len(l1), 0)
		same(t, err, api.ErrArg)
	}
}

// P11.4, P11.5, P11.6

func TestWhatFollows(t *testing.T) {
	c := chain(3)
	for range 3000 {
		uses := c.row(1 + c.pick(30))
		l, _ := group.Groups(uses)
		of := make([]int, len(uses))
		count := make([]int, len(uses))
		for i, g := range l {
			for _, n := range g {
				of[n] = i
				count[n]++
			}
		}
		for i := range uses {
			same(t, count[i], 1)
			reach, _ := group.Reach(uses, i)
			for j := range uses {
				back, _ := group.Reach(uses, j)
				both := slices.Contains(reach, j) && slices.Contains(back, i)
				same(t, of[i] == of[j], i == j || both)
			}
			for _, n := range reach {
				same(t, of[n] <= of[i], true)
			}
		}
		if t.Failed() {
			t.Fatal(uses)
		}
	}
}

// P11.3

// expr is an expression that has some names free, and binds some.
func (c *chain) expr(depth int) api.Expr {
	name := func() string { return []string{"a", "b", "c", "d", "e", "+"}[c.pick(6)] }
	inner := func() api.Expr { return c.expr(c.pick(depth)) }
	if depth == 0 {
		return api.Expr{Kind: api.EVar, Name: name()}
	}
	switch c.pick(4) {
	case 0:
		return api.Expr{Kind: api.ELam, Params: []string{name()}, Args: []api.Expr{inner()}}
	case 1:
		return api.Expr{Kind: api.ELet, Binds: []api.Bind{c.bind(name(), inner())}, Args: []api.Expr{inner()}}
	case 2:
		return api.Expr{Kind: api.EInt, N: 1}
	}
	return api.Expr{Kind: api.EApp, Args: []api.Expr{inner(), inner()}}
}

func (c *chain) bind(name string, body api.Expr) api.Bind {
	var pats []api.Pat
	for range c.pick(2) {
		pats = append(pats, api.Pat{Kind: api.PVar, Name: []string{"a", "b", "x"}[c.pick(3)]})
	}
	return api.Bind{Name: name, Clauses: []api.Clause{{Pats: pats, Rhs: []api.Rhs{{Body: body}}}}}
}

func TestManyBinds(t *testing.T) {
	c := chain(4)
	count := map[string]int{}
	for range 20000 {
		var l []api.Bind
		for range c.pick(8) {
			l = append(l, c.bind([]string{"a", "b", "c", "d", "e", "+", "a"}[c.pick(7)], c.expr(c.pick(4))))
			if c.pick(20) == 0 {
				l[len(l)-1].Clauses = nil
			}
		}
		uses := things(len(l), func(i int) []int {
			var numbers []int
			for _, name := range scope.Uses(l[i]) {
				if n := slices.IndexFunc(l, func(b api.Bind) bool { return b.Name == name }); n >= 0 {
					numbers = append(numbers, n)
				}
			}
			return numbers
		})
		got, want := group.Binds(l), wanted(uses)
		if !slices.EqualFunc(got, want, slices.Equal) {
			t.Fatalf("%v: %v, not %v", uses, got, want)
		}
		count[fmt.Sprint(len(l)-len(got))]++
	}
	if count["0"] < 1000 || count["1"] < 500 || count["2"] < 100 {
		t.Error(count)
	}
}

// The same rows have the same groups, however often and in between which others.
func TestAgain(t *testing.T) {
	c := chain(5)
	for range 300 {
		uses, other := c.row(12), c.row(9)
		one, _ := group.Groups(uses)
		group.Groups(other)
		if two, _ := group.Groups(uses); !reflect.DeepEqual(one, two) {
			t.Error(uses)
		}
	}
}
