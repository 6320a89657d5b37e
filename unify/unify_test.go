package unify_test

import (
	"fmt"
	"reflect"
	"slices"
	"strconv"
	"strings"
	"testing"

	"changeling/api"
	"changeling/unify"
)

// Short ways to write types: as texts, a variable as its number, a function's type as (a > b).

func num(n int) api.Type { return api.Type{Kind: api.KVar, N: n} }
func con(name string, l ...api.Type) api.Type {
	return api.Type{Kind: api.KCon, Name: name, Args: l}
}
func fun(l ...api.Type) api.Type { return api.Type{Kind: api.KFun, Args: l} }

// typ is the type that a text writes.
func typ(text string) api.Type {
	t, rest := reading(strings.ReplaceAll(text, " ", ""))
	if rest != "" {
		panic(text)
	}
	return t
}

func types(texts ...string) []api.Type {
	var l []api.Type
	for _, s := range texts {
		l = append(l, typ(s))
	}
	return l
}

func reading(s string) (api.Type, string) {
	if s[0] == '(' {
		from, rest := reading(s[1:])
		to, rest := reading(rest[1:])
		return fun(from, to), rest[1:]
	}
	end := strings.IndexAny(s+")", "(,)>")
	word, rest := s[:end], s[end:]
	if n, err := strconv.Atoi(word); err == nil {
		return num(n), rest
	}
	t := con(word)
	if rest == "" || rest[0] != '(' {
		return t, rest
	}
	for rest[0] != ')' {
		var a api.Type
		a, rest = reading(rest[1:])
		t.Args = append(t.Args, a)
	}
	return t, rest[1:]
}

// written is a type's text.
func written(t api.Type) string {
	var l []string
	for _, a := range t.Args {
		l = append(l, written(a))
	}
	switch {
	case t.Kind == api.KVar && t.Name == "" && len(l) == 0:
		return strconv.Itoa(t.N)
	case t.Kind == api.KFun && t.Name == "" && len(l) == 2 && t.N == 0:
		return "(" + l[0] + " > " + l[1] + ")"
	case t.Kind == api.KCon && t.Name != "" && len(l) == 0 && t.N == 0:
		return t.Name
	case t.Kind == api.KCon && t.Name != "" && t.N == 0:
		return t.Name + "(" + strings.Join(l, ", ") + ")"
	}
	return fmt.Sprintf("{%d %d %q %v}", t.Kind, t.N, t.Name, l)
}

func same(t *testing.T, got, want any) {
	t.Helper()
	if !reflect.DeepEqual(got, want) {
		t.Errorf("%v, not %v", got, want)
	}
}

func sameType(t *testing.T, got api.Type, want string) {
	t.Helper()
	same(t, written(got), want)
}

// wrongTypes are types that may not be.
func wrongTypes() []api.Type {
	l := []api.Type{
		{}, {Kind: 4}, {Kind: -1}, {Kind: 4, Name: "A"}, {Kind: 0, Args: types("0", "1")},
		num(-1), num(1<<30 + 1), num(-1 << 63), num(1<<63 - 1),
		{Kind: api.KVar, Name: "a"}, {Kind: api.KVar, N: 1, Args: types("0")},
		con(""), con("", num(0)), {Kind: api.KCon, Name: "A", N: 1}, {Kind: api.KCon, Name: "A", N: -1},
		fun(), fun(num(0)), fun(types("0", "1", "2")...), {Kind: api.KFun, N: 1, Args: types("0", "1")}, {Kind: api.KFun, Name: "A", Args: types("0", "1")},
	}
	for _, t := range slices.Clone(l) {
		l = append(l, con("A", t), con("A", num(0), t), fun(t, num(0)), fun(num(0), t), con("L", con("L", t), num(1)))
	}
	return l
}

// P10.2

func TestRight(t *testing.T) {
	for _, s := range []string{"0", "1", "1073741824", "A", "(0 > 0)", "A(0)", "A(A, A, A)", "((0 > A) > A(1073741824, (A > 1)))"} {
		same(t, unify.Right(typ(s)), true)
	}
	same(t, unify.Right(con("a")), true)
	same(t, unify.Right(con("no name of a source")), true)
	same(t, unify.Right(api.Type{Kind: api.KVar, Args: []api.Type{}}), true)
	for _, ty := range wrongTypes() {
		if unify.Right(ty) {
			t.Error(written(ty))
		}
	}
}

func TestSizeAndVars(t *testing.T) {
	for _, c := range []struct {
		text string
		size int
		vars []int
	}{
		{"0", 1, []int{0}},
		{"1073741824", 1, []int{1 << 30}},
		{"A", 1, nil},
		{"(5 > 3)", 3, []int{5, 3}},
		{"(5 > (3 > 5))", 5, []int{5, 3}},
		{"((7 > 2) > (2 > L(1, 7)))", 9, []int{7, 2, 1}},
		{"A(B, B(C, 9), 1)", 6, []int{9, 1}},
	} {
		same(t, unify.Size(typ(c.text)), c.size)
		same(t, unify.Vars(typ(c.text)), c.vars)
	}
}

func TestRename(t *testing.T) {
	for text, want := range map[string]string{
		"0":                      "0",
		"9":                      "0",
		"A":                      "A",
		"(5 > 3)":                "(0 > 1)",
		"(1 > 0)":                "(0 > 1)",
		"(1 > (0 > 1))":          "(0 > (1 > 0))",
		"L((7 > 2), 2, B(1), 7)": "L((0 > 1), 1, B(2), 0)",
		"(1073741824 > 1)":       "(0 > 1)",
	} {
		sameType(t, unify.Rename(typ(text)), want)
	}
}

func TestSubst(t *testing.T) {
	for _, c := range []struct {
		text string
		vars []int
		with []api.Type
		want string
	}{
		{"(0 > 1)", nil, nil, "(0 > 1)"},
		{"(0 > 1)", []int{0}, types("A"), "(A > 1)"},
		{"(0 > 1)", []int{1, 0}, types("A", "(0 > 1)"), "((0 > 1) > A)"},
		{"(0 > (1 > L(0)))", []int{0, 1}, types("1", "0"), "(1 > (0 > L(1)))"},
		{"0", []int{0}, types("L(0)"), "L(0)"},
		{"(0 > 1)", []int{0, 0}, types("A", "B"), "(A > 1)"},
		{"(0 > 1)", []int{0, 1, 0}, types("A", "B", "C"), "(A > B)"},
		{"(0 > 1)", []int{0, 1}, types("A"), "(A > 1)"},
		{"(0 > 1)", []int{1, 0, 1}, types("A"), "(0 > A)"},
		{"(0 > 1)", []int{0}, types("A", "B"), "(A > 1)"},
		{"(0 > 1)", []int{7, -1, 1 << 40}, types("A", "B", "C"), "(0 > 1)"},
		{"(0 > 1)", nil, types("A", "B"), "(0 > 1)"},
		{"(0 > 1)", []int{0, 1}, nil, "(0 > 1)"},
		{"L(A, (3 > 3))", []int{3}, types("M(3, 4)"), "L(A, (M(3, 4) > M(3, 4)))"},
	} {
		sameType(t, unify.Subst(typ(c.text), c.vars, c.with), c.want)
	}
}

// The types of with stand as they are, whether they may be or not.
func TestSubstWithWrongTypes(t *testing.T) {
	for _, ty := range wrongTypes() {
		same(t, unify.Subst(typ("L(0, 1)"), []int{0}, []api.Type{ty}), con("L", ty, num(1)))
		same(t, unify.Subst(typ("0"), []int{0, 1}, []api.Type{ty, num(5)}), ty)
	}
	odd := api.Type{Kind: api.KVar, N: 3, Name: "a", Args: types("0", "(0 > 1)")}
	same(t, unify.Subst(typ("0"), []int{0, 3}, []api.Type{odd, num(7)}), odd)
}

func TestOfWrongTypes(t *testing.T) {
	for _, ty := range wrongTypes() {
		same(t, unify.Size(ty), 0)
		same(t, len(unify.Vars(ty)), 0)
		same(t, unify.Rename(ty), api.Type{})
		same(t, unify.Subst(ty, []int{0}, types("A")), api.Type{})
	}
}

// P10.1

// made is a store in which pairs are made the same.
func made(t *testing.T, pairs ...string) *unify.Store {
	t.Helper()
	s := unify.New()
	for i := 0; i < len(pairs); i += 2 {
		if err := s.Unify(typ(pairs[i]), typ(pairs[i+1])); err != api.OK {
			t.Fatal(pairs[i], pairs[i+1], err)
		}
	}
	return s
}

// resolves tells what types are in a store: each text with the one that it resolves to.
func resolves(t *testing.T, s *unify.Store, texts ...string) {
	t.Helper()
	for i := 0; i < len(texts); i += 2 {
		got, err := s.Resolve(typ(texts[i]))
		if err != api.OK || written(got) != texts[i+1] {
			t.Errorf("%s: %s %d, not %s", texts[i], written(got), err, texts[i+1])
		}
		l, err := s.Leaves(typ(texts[i]))
		if err != api.OK || !slices.Equal(l, unify.Vars(typ(texts[i+1]))) {
			t.Errorf("%s: %v %d", texts[i], l, err)
		}
	}
}

func TestNothingIsKnown(t *testing.T) {
	for _, s := range []*unify.Store{unify.New(), {}} {
		resolves(t, s, "0", "0", "7", "7", "(3 > L(3, 1))", "(3 > L(3, 1))", "A", "A", "1073741824", "1073741824")
	}
}

func TestExamples(t *testing.T) {
	s := made(t, "0", "(Int > 1)", "0", "(2 > Bool)")
	resolves(t, s, "0", "(Int > Bool)", "1", "Bool", "2", "Int")
	same(t, unify.New().Unify(typ("0"), typ("(0 > Int)")), api.ErrCycle)
}

// Both sides of each are turned, too: P10.5.
func TestUnify(t *testing.T) {
	for _, c := range []struct {
		pairs string // made the same one after the other
		then  string // what types are then
	}{
		{"0 = 0", "0 = 0"},
		{"A = A", "0 = 0"},
		{"L(A, B) = L(A, B)", "0 = 0"},
		{"3 = 5", "3 = 3; 5 = 3"},
		{"5 = 3; 4 = 5", "3 = 3; 4 = 3; 5 = 3"},
		{"4 = 5; 2 = 3; 5 = 3", "2 = 2; 3 = 2; 4 = 2; 5 = 2"},
		{"4 = 5; 5 = 4; 4 = 4", "4 = 4; 5 = 4"},
		{"9 = 8; 8 = 7; 7 = 6; 9 = 5", "(9 > (8 > (7 > (6 > 5)))) = (5 > (5 > (5 > (5 > 5))))"},
		{"0 = 1; 1 = A", "0 = A; 1 = A"},
		{"0 = A; 1 = 0", "0 = A; 1 = A"},
		{"0 = A; 1 = A; 0 = 1", "0 = A; 1 = A"},
		{"0 = L(1); 2 = L(3); 0 = 2", "0 = L(1); 2 = L(1); 3 = 1"},
		{"0 = L(1); 2 = L(3); 0 = 2; 3 = A", "0 = L(A); 2 = L(A)"},
		{"(0 > 1) = (1 > 0)", "0 = 0; 1 = 0"},
		{"(0 > (1 > 2)) = (1 > (2 > A))", "0 = A; 1 = A; 2 = A"},
		{"(0 > 1) = (L(1) > A)", "0 = L(A)"},
		{"(1 > 0) = (A > L(1))", "0 = L(A)"},
		{"0 = L(1); 1 = L(2); 2 = L(3)", "0 = L(L(L(3)))"},
		{"2 = L(3); 1 = L(2); 0 = L(1)", "0 = L(L(L(3)))"},
		{"0 = (1 > 1); 0 = (2 > A)", "0 = (A > A); 2 = A"},
		{"0 = M(1, 2); 0 = M(2, 3); 4 = L(0)", "0 = M(1, 1); 4 = L(M(1, 1)); 3 = 1"},
		{"1 = L(0); 2 = L(0); 1 = 2", "1 = L(0); 2 = L(0)"},
		{"(0 > 0) = (L(1) > L(2))", "0 = L(1); 2 = 1"},
		{"1073741824 = 3", "1073741824 = 3"},
		{"1073741824 = 0; 0 = 1073741823", "(1073741824 > 1073741823) = (0 > 0)"},
	} {
		for turned := range 2 {
			s := unify.New()
			for pair := range strings.SplitSeq(c.pairs, "; ") {
				sides := types(strings.Split(pair, " = ")...)
				if err := s.Unify(sides[turned], sides[1-turned]); err != api.OK {
					t.Error(c.pairs, turned, err)
				}
			}
			for pair := range strings.SplitSeq(c.then, "; ") {
				resolves(t, s, strings.Split(pair, " = ")...)
			}
		}
	}
}

func TestErrors(t *testing.T) {
	for _, c := range []struct {
		known, a, b string
		err         api.Errno
	}{
		{"", "A", "B", api.ErrType},
		{"", "A", "(A > A)", api.ErrType},
		{"", "L(A)", "L", api.ErrType},
		{"", "L(A)", "L(A, A)", api.ErrType},
		{"", "L(A)", "M(A)", api.ErrType},
		{"", "M(A, A)", "(A > A)", api.ErrType},
		{"", "(A > A)", "(A > B)", api.ErrType},
		{"", "(A > A)", "(B > A)", api.ErrType},
		{"0 = A", "0", "B", api.ErrType},
		{"0 = A; 1 = B", "0", "1", api.ErrType},
		{"0 = A; 1 = 0", "1", "B", api.ErrType},
		{"", "(0 > 0)", "(A > B)", api.ErrType},
		{"", "(0 > 1)", "(1 > (A > 0))", api.ErrCycle},
		{"", "0", "L(0)", api.ErrCycle},
		{"", "0", "(0 > A)", api.ErrCycle},
		{"", "0", "(A > L(B, 0))", api.ErrCycle},
		{"0 = 1", "0", "L(1)", api.ErrCycle},
		{"0 = 1", "1", "L(0)", api.ErrCycle},
		{"3 = 4; 4 = 5", "3", "L(5)", api.ErrCycle},
		{"0 = L(1)", "1", "0", api.ErrCycle},
		{"0 = L(1)", "1", "L(0)", api.ErrCycle},
		{"0 = L(1); 1 = L(2)", "2", "0", api.ErrCycle},
		{"0 = L(1); 1 = L(2)", "2", "(A > 0)", api.ErrCycle},
		{"0 = L(M(A, 1)); 2 = 1; 3 = 2", "3", "0", api.ErrCycle},
		{"0 = L(1); 2 = L(3); 1 = 2", "3", "0", api.ErrCycle},
		{"0 = L(1); 2 = L(0)", "0", "2", api.ErrCycle},
		{"", "M(0, 1)", "M(L(1), L(0))", api.ErrCycle},
		{"", "M(0, A)", "M(L(0), B)", api.ErrCycle},
		{"", "M(A, 0)", "M(B, L(0))", api.ErrType},
		{"", "M(L(A), 0)", "M(L(B), L(0))", api.ErrType},
		{"", "M(L(0), A)", "M(L(L(0)), B)", api.ErrCycle},
		{"", "N(A, 0, B)", "N(A, L(0), C)", api.ErrCycle},
		{"", "N(A, B, 0)", "N(A, C, L(0))", api.ErrType},
		// What is found first of all, where variables are known: to the left of others, within ahead of behind.
		{"0 = L(A); 1 = L(B)", "M(0, 2)", "M(1, L(2))", api.ErrType},
		{"0 = L(A); 1 = L(B)", "M(2, 0)", "M(L(2), 1)", api.ErrCycle},
		{"0 = L(2); 1 = L(M(2, A))", "M(0, A)", "M(1, B)", api.ErrCycle},
	} {
		for turned := range 2 {
			s := unify.New()
			for pair := range strings.SplitSeq(c.known, "; ") {
				if sides := strings.Split(pair, " = "); pair != "" {
					same(t, s.Unify(typ(sides[0]), typ(sides[1])), api.OK)
				}
			}
			sides := types(c.a, c.b)
			if err := s.Unify(sides[turned], sides[1-turned]); err != c.err {
				t.Errorf("%s: %s, %s: %d, not %d", c.known, c.a, c.b, err, c.err)
			}
		}
	}
}

// With an error nothing has changed.
func TestNothingHasChanged(t *testing.T) {
	known := []string{"0", "1", "2", "L(3)", "7", "(8 > 9)", "5", "6"}
	then := []string{
		"0", "0", "1", "0", "2", "L(3)", "3", "3", "4", "4", "5", "5", "6", "5", "7", "(8 > 9)", "8", "8", "9", "9", "10", "10", "11", "11",
	}
	for _, pair := range []string{
		"M(0, A) = M(A, B)",
		"M(1, A) = M(A, B)",
		"M(0, A) = M(3, B)",
		"M(3, A) = M(0, B)",
		"M(4, A) = M(6, B)",
		"M(4, A) = M(L(10, L(11), (8 > A)), B)",
		"M(2, A) = M(L(A), B)",
		"M(2, A) = M(L(L(4)), B)",
		"M(2, 4) = M(L(L(4)), 2)",
		"N(8, 9, 8) = N(9, 10, L(10))",
		"N(8, 9, 7) = N(A, 11, (B > C))",
		"N(5, 6, 0) = N(L(10), L(11), L(0))",
		"N(10, 11, (11 > 11)) = N(2, 2, (2 > 7))",
		"N(2, 2, A) = N(L(10), L(10), B)",
	} {
		s := made(t, known...)
		sides := strings.Split(pair, " = ")
		for range 2 {
			if err := s.Unify(typ(sides[0]), typ(sides[1])); err == api.OK {
				t.Error(pair)
			}
			resolves(t, s, then...)
		}
		// and it goes on as if it had not been.
		same(t, s.Unify(typ("(10 > 11)"), typ("(2 > 0)")), api.OK)
		same(t, s.Unify(typ("3"), typ("A")), api.OK)
		same(t, s.Unify(typ("11"), typ("B")), api.OK)
		resolves(t, s, "10", "L(A)", "1", "B", "7", "(8 > 9)", "6", "5", "4", "4")
	}
}

// An error behind pairs that were made the same already does not leave these as made.
func TestPairsMadeInVain(t *testing.T) {
	s := made(t, "0", "L(1)", "2", "L(3)")
	for range 3 {
		same(t, s.Unify(typ("N(0, 0, A)"), typ("N(2, 2, B)")), api.ErrType)
		resolves(t, s, "(1 > 3)", "(1 > 3)", "(0 > 2)", "(L(1) > L(3))")
	}
	same(t, s.Unify(typ("0"), typ("2")), api.OK)
	resolves(t, s, "(1 > 3)", "(1 > 1)", "(0 > 2)", "(L(1) > L(1))")
	same(t, s.Unify(typ("N(0, 2, 3)"), typ("N(2, 0, L(A))")), api.OK)
	resolves(t, s, "(0 > 2)", "(L(L(A)) > L(L(A)))")
}

func fresh(t *testing.T, s *unify.Store, want int) {
	t.Helper()
	same(t, s.Fresh(), num(want))
}

func TestFresh(t *testing.T) {
	for _, s := range []*unify.Store{unify.New(), {}} {
		for i := range 5 {
			fresh(t, s, i)
		}
		same(t, s.Unify(typ("(3 > 9)"), typ("(A > 7)")), api.OK)
		fresh(t, s, 10)
		same(t, s.Unify(typ("11"), typ("(3 > 20)")), api.OK)
		fresh(t, s, 21)
		fresh(t, s, 22)
		resolves(t, s, "L(40, 30)", "L(40, 30)")
		fresh(t, s, 41)
		if _, err := s.Leaves(typ("L(45, 50)")); err != api.OK {
			t.Error(err)
		}
		fresh(t, s, 51)
		if _, err := s.Resolve(typ("L(A, 60)")); err != api.OK {
			t.Error(err)
		}
		fresh(t, s, 61)
		resolves(t, s, "5", "5")
		fresh(t, s, 62)
	}
}

// What was given stays given behind errors, but for ErrArg.
func TestFreshBehindErrors(t *testing.T) {
	s := unify.New()
	same(t, s.Unify(typ("M(0, A)"), typ("M(9, B)")), api.ErrType)
	fresh(t, s, 10)
	same(t, s.Unify(typ("12"), typ("L(12, 11)")), api.ErrCycle)
	fresh(t, s, 13)
	large := con("L", num(20))
	for range api.MaxType {
		large.Args = append(large.Args, num(3))
	}
	_, err := s.Resolve(large)
	same(t, err, api.ErrLarge)
	fresh(t, s, 21)
	for _, wrong := range []api.Type{con("L", num(99), num(-1)), con("L", num(99), fun()), num(1<<30 + 1), con("L", num(1<<30), con(""))} {
		same(t, s.Unify(wrong, num(50)), api.ErrArg)
		same(t, s.Unify(num(50), wrong), api.ErrArg)
		_, err := s.Resolve(wrong)
		same(t, err, api.ErrArg)
		_, err = s.Leaves(wrong)
		same(t, err, api.ErrArg)
	}
	fresh(t, s, 22)
}

// The greatest variable that may be has one behind it that may not.
func TestGreatVariables(t *testing.T) {
	s := made(t, "1073741824", "L(1073741823)")
	resolves(t, s, "1073741824", "L(1073741823)")
	fresh(t, s, 1<<30+1)
	same(t, s.Unify(num(1<<30+1), num(0)), api.ErrArg)
	_, err := s.Resolve(num(1<<30 + 1))
	same(t, err, api.ErrArg)
	fresh(t, s, 1<<30+2)
	same(t, s.Unify(num(0), num(1<<30)), api.OK)
	resolves(t, s, "0", "L(1073741823)")
}

func TestWrongTypes(t *testing.T) {
	s := made(t, "0", "L(1)")
	for _, ty := range wrongTypes() {
		same(t, s.Unify(ty, num(1)), api.ErrArg)
		same(t, s.Unify(num(1), ty), api.ErrArg)
		same(t, s.Unify(ty, ty), api.ErrArg)
		same(t, s.Unify(con("M", num(1), ty), con("N")), api.ErrArg)
		r, err := s.Resolve(ty)
		same(t, r, api.Type{})
		same(t, err, api.ErrArg)
		l, err := s.Leaves(ty)
		same(t, len(l), 0)
		same(t, err, api.ErrArg)
	}
	resolves(t, s, "0", "L(1)", "1", "1")
	fresh(t, s, 2)
}

func TestNilStore(t *testing.T) {
	var s *unify.Store
	for range 3 {
		fresh(t, s, 0)
	}
	for _, ty := range append(wrongTypes(), types("0", "A", "(7 > L(A))")...) {
		same(t, s.Unify(ty, num(1)), api.ErrNil)
		same(t, s.Unify(num(1), ty), api.ErrNil)
		r, err := s.Resolve(ty)
		same(t, r, api.Type{})
		same(t, err, api.ErrNil)
		l, err := s.Leaves(ty)
		same(t, len(l), 0)
		same(t, err, api.ErrNil)
	}
	fresh(t, s, 0)
}

// A store that New did not make knows nothing at first.
func TestZeroStore(t *testing.T) {
	for _, first := range []func(*unify.Store){
		func(s *unify.Store) { s.Unify(num(0), typ("L(1)")) },
		func(s *unify.Store) { s.Resolve(num(1)) },
		func(s *unify.Store) { s.Leaves(num(1)) },
		func(s *unify.Store) { s.Unify(typ("M(0, A)"), typ("M(L(1), B)")) },
	} {
		s := &unify.Store{}
		first(s)
		same(t, s.Unify(num(0), typ("L(1)")), api.OK)
		resolves(t, s, "0", "L(1)")
		fresh(t, s, 2)
	}
}

// row is a type of a size: a constructor with so many Args.
func row(size int, arg api.Type) api.Type {
	t := con("R")
	for range size - 1 {
		t.Args = append(t.Args, arg)
	}
	return t
}

func TestLarge(t *testing.T) {
	s := made(t, "1", "L(L(A))")
	for _, c := range []struct {
		ty   api.Type
		size int
	}{
		{row(api.MaxType, num(0)), api.MaxType},
		{row(api.MaxType+1, num(0)), 0},
		{con("M", num(1), row(api.MaxType-4, typ("A"))), api.MaxType},
		{con("M", num(1), row(api.MaxType-3, typ("A"))), 0},
		{con("M", row(api.MaxType-4, typ("A")), num(1)), api.MaxType},
		{con("M", row(api.MaxType-3, typ("A")), num(1)), 0},
		{row(1<<20, num(0)), 0},
	} {
		r, err := s.Resolve(c.ty)
		if c.size == 0 {
			same(t, r, api.Type{})
			same(t, err, api.ErrLarge)
			continue
		}
		same(t, unify.Size(r), c.size)
		same(t, err, api.OK)
	}
	for size, want := range map[int]api.Errno{api.MaxType: api.OK, api.MaxType + 1: api.ErrLarge} {
		s := unify.New()
		same(t, s.Unify(num(7), row(size, num(3))), api.OK)
		r, err := s.Resolve(num(7))
		same(t, err, want)
		same(t, unify.Size(r) == size, want == api.OK)
		l, err := s.Leaves(num(7))
		same(t, l, []int{3})
		same(t, err, api.OK)
	}
}

// Rule 3

// spoil makes a type another one, wherever it is kept.
func spoil(t api.Type) {
	for i := range t.Args {
		spoil(t.Args[i])
		t.Args[i] = api.Type{Kind: 9, N: -5, Name: "spoilt"}
	}
}

func TestNothingIsSharedWithTheStore(t *testing.T) {
	s := unify.New()
	a, b := typ("M(0, L((1 > A)), 5, 7)"), typ("M(L(L(2, 3)), 4, (6 > L(6)), L)")
	b.Args[3].Args = make([]api.Type, 0, 3)
	same(t, s.Unify(a, b), api.OK)
	same(t, written(a)+written(b), "M(0, L((1 > A)), 5, 7)M(L(L(2, 3)), 4, (6 > L(6)), L)")
	spoil(a)
	spoil(b)
	for range 2 {
		resolves(t, s, "0", "L(L(2, 3))", "4", "L((1 > A))", "5", "(6 > L(6))", "7", "L")
		for _, ask := range types("0", "4", "5", "M(0, 0, L(1))") {
			r, err := s.Resolve(ask)
			same(t, err, api.OK)
			spoil(r)
			l, err := s.Leaves(ask)
			same(t, err, api.OK)
			for i := range l {
				l[i] = 99
			}
		}
	}
}

// Two parts of an answer are apart, and apart from what was handed in.
func TestAnswersAreApart(t *testing.T) {
	s := made(t, "0", "L((1 > 2))")
	r, _ := s.Resolve(typ("M(0, 0)"))
	spoil(r.Args[0])
	sameType(t, r.Args[1], "L((1 > 2))")
	given := typ("M(L(1), 0, 0, (0 > A))")
	with := types("L((5 > 6))")
	r = unify.Subst(given, []int{0}, with)
	spoil(r.Args[1])
	sameType(t, r.Args[2], "L((5 > 6))")
	sameType(t, with[0], "L((5 > 6))")
	sameType(t, given, "M(L(1), 0, 0, (0 > A))")
	spoil(r)
	sameType(t, given, "M(L(1), 0, 0, (0 > A))")
	sameType(t, with[0], "L((5 > 6))")
	r = unify.Rename(given)
	sameType(t, r, "M(L(0), 1, 1, (1 > A))")
	spoil(r)
	sameType(t, given, "M(L(1), 0, 0, (0 > A))")
	part := typ("L((1 > 1))")
	twice := con("M", part, part)
	for _, r := range []api.Type{unify.Rename(twice), unify.Subst(twice, nil, nil), unify.Subst(typ("M(0, 1)"), []int{0, 1}, []api.Type{part, part})} {
		want := written(r.Args[1])
		spoil(r.Args[0])
		sameType(t, r.Args[1], want)
	}
	sameType(t, twice, "M(L((1 > 1)), L((1 > 1)))")
	l := unify.Vars(given)
	l[0] = 7
	same(t, unify.Vars(given), []int{1, 0})
}

// P1

// nested is a type with so many parts in one another.
func nested(depth int, end api.Type, within func(api.Type) api.Type) api.Type {
	for range depth {
		end = within(end)
	}
	return end
}

func TestDeepTypes(t *testing.T) {
	const depth = 1 << 16
	for _, within := range []func(api.Type) api.Type{
		func(ty api.Type) api.Type { return con("L", ty) },
		func(ty api.Type) api.Type { return fun(num(1), ty) },
		func(ty api.Type) api.Type { return fun(ty, num(1)) },
	} {
		s := unify.New()
		deep := nested(depth, num(0), within)
		size := unify.Size(deep)
		same(t, unify.Right(deep), true)
		same(t, size > depth, true)
		same(t, slices.Contains(unify.Vars(deep), 0), true)
		same(t, unify.Size(unify.Rename(deep)), size)
		same(t, unify.Size(unify.Subst(num(0), []int{0}, []api.Type{deep})), size)
		same(t, s.Unify(num(0), deep), api.ErrCycle)
		same(t, s.Unify(num(2), deep), api.OK)
		same(t, s.Unify(num(2), deep), api.OK)
		same(t, s.Unify(num(0), num(2)), api.ErrCycle)
		same(t, s.Unify(nested(depth, num(3), within), num(2)), api.OK)
		same(t, s.Unify(num(2), nested(depth, within(num(3)), within)), api.ErrCycle)
		l, err := s.Leaves(num(2))
		same(t, err, api.OK)
		same(t, slices.Contains(l, 0), true)
		_, err = s.Resolve(deep)
		same(t, err, api.ErrLarge)
		same(t, s.Unify(nested(depth, typ("A"), within), num(2)), api.OK)
		same(t, s.Unify(nested(depth, typ("B"), within), num(2)), api.ErrType)
		resolves(t, s, "0", "A", "3", "A")
	}
}

// doubled makes a variable of a store the type that doubles from variable to variable, each as often as there are steps between them.
func doubled(t *testing.T, s *unify.Store, from, step, count int, end api.Type) int {
	t.Helper()
	same(t, s.Unify(num(from), end), api.OK)
	for range count {
		ty := num(from)
		for range step {
			ty = fun(ty, ty)
		}
		from++
		same(t, s.Unify(num(from), ty), api.OK)
	}
	return from
}

// Types that are greater than all memory are made the same at once, whichever variables they are told by.
func TestDoubledTypes(t *testing.T) {
	for _, step := range []int{1, 2, 3} {
		s := unify.New()
		a := doubled(t, s, 1000, 1, 120, num(0))
		b := doubled(t, s, 2000, step, 120/step, num(1))
		c := doubled(t, s, 3000, 2, 59, fun(num(2), num(2))) // its variables stand between those of the first
		for _, x := range []int{a, b, c} {
			l, err := s.Leaves(num(x))
			same(t, err, api.OK)
			same(t, l, []int{x/1000 - 1})
			_, err = s.Resolve(num(x))
			same(t, err, api.ErrLarge)
		}
		same(t, s.Unify(num(a), num(b)), api.OK)
		same(t, s.Unify(fun(num(c), num(c)), num(b)), api.OK)
		l, err := s.Leaves(fun(num(a), num(b)))
		same(t, err, api.OK)
		same(t, l, []int{0})
		same(t, s.Unify(num(0), num(a)), api.ErrCycle)
		same(t, s.Unify(num(2), fun(num(b), num(4))), api.ErrCycle)
		same(t, s.Unify(num(1), typ("A")), api.OK)
		same(t, s.Unify(num(2), typ("B")), api.ErrType)
		resolves(t, s, "(0 > (1 > 2))", "(A > (A > A))")
	}
}

// An error behind doubled types takes back what was made the same.
func TestDoubledTypesInVain(t *testing.T) {
	s := unify.New()
	a, b := doubled(t, s, 100, 1, 90, num(0)), doubled(t, s, 300, 1, 90, num(1))
	for range 3 {
		same(t, s.Unify(con("M", num(a), typ("A")), con("M", num(b), typ("B"))), api.ErrType)
		resolves(t, s, "(0 > 1)", "(0 > 1)")
		same(t, s.Unify(con("M", num(a), num(7)), con("M", num(b), con("L", num(7)))), api.ErrCycle)
		resolves(t, s, "(0 > 1)", "(0 > 1)")
	}
}

// Many variables, one within the other, or one the same as the other, told from either end.
func TestLongChains(t *testing.T) {
	const count = 1 << 16
	for _, c := range []struct {
		name    string
		upwards bool
		one     func(i int) api.Type
	}{
		{"same", true, func(i int) api.Type { return num(i + 1) }},
		{"same", false, func(i int) api.Type { return num(i + 1) }},
		{"within", true, func(i int) api.Type { return fun(num(i+1), num(i+1)) }},
		{"within", false, func(i int) api.Type { return con("L", num(i+1)) }},
	} {
		s := unify.New()
		for i := range count {
			if !c.upwards {
				i = count - 1 - i
			}
			if err := s.Unify(num(i), c.one(i)); err != api.OK {
				t.Fatal(err)
			}
		}
		l, err := s.Leaves(num(0))
		same(t, err, api.OK)
		if c.name == "same" {
			same(t, l, []int{0})
			for i := 0; i < count; i += 999 {
				resolves(t, s, strconv.Itoa(i), "0")
			}
			continue
		}
		same(t, l, []int{count})
		same(t, s.Unify(num(count), num(0)), api.ErrCycle)
		_, err = s.Resolve(num(0))
		same(t, err, api.ErrLarge)
		_, err = s.Resolve(num(count - 7))
		same(t, err, api.OK)
	}
}

// The variables that are the same as many others are found as fast, in whatever order they were told, and behind errors.
func TestManyTheSame(t *testing.T) {
	const count = 1 << 15
	s := unify.New()
	all := con("R")
	for i := range count {
		all.Args = append(all.Args, num(i))
		same(t, s.Unify(num(count-i), num(count-i-1)), api.OK)
	}
	for range 3 {
		l, err := s.Leaves(all)
		same(t, err, api.OK)
		same(t, l, []int{0})
	}
	for i := range count {
		if err := s.Unify(con("M", num(i), typ("A")), con("M", typ("C"), typ("B"))); err != api.ErrType {
			t.Fatal(err)
		}
	}
	resolves(t, s, "77", "0")
	same(t, s.Unify(num(count-5), typ("A")), api.OK)
	resolves(t, s, "77", "A")
}
