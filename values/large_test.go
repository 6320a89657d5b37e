package values_test

import (
	"fmt"
	"slices"
	"strings"
	"testing"

	"changeling/api"
	"changeling/decl"
	"changeling/values"
)

// P1: what there may be very many of

const nested = `data L a = N | C a (L a)
data P a b = P a b
data M a = O | J a
data I a = I a
data K a = K a
data D a = D a a
data V = V V
data Bush a = BN | BC a (Bush (Bush a))
`

// A data type that asks for itself with other Args in each of two fields, and these with others again: of how many types there is something to be known is beyond all bounds.
func TestDoubled(t *testing.T) {
	t.Parallel()
	const most = api.MaxValues + 1
	for _, x := range []struct {
		data, ty string
		want     map[int]int // by sizes
	}{
		{"data T a = A (T (L a)) | B (T (M a))", "T Int", map[int]int{1: 0, 2: 0, 63: 0, 64: 0}},
		{"data T a = E | A (T (L a)) | B (T (M a))", "T Int", map[int]int{1: 1, 2: 2, 12: 1 << 11, 13: 1 << 12, 14: most, 64: most}},
		{"data T a = A (T (L a)) | B (T (M a)) | E", "T V", map[int]int{1: 1, 2: 2, 12: 1 << 11, 13: 1 << 12, 14: most, 64: most}},
		{"data T a = A (T (M a)) (T (I a)) | E", "T Int", map[int]int{1: 1, 2: 0, 3: 1, 5: 2, 7: 5, 9: 14, 62: 0, 63: most, 64: 0}},
		{"data T a = A (T (I a)) | B (T (K a)) | E a", "T Bool", map[int]int{1: 0, 2: 2, 3: 0, 4: 4, 20: 1 << 10, 22: 1 << 11, 24: 1 << 12, 26: most, 61: 0, 63: 0, 64: most}},
		{"data T a = A (T (I a)) | B (T (K a)) | E a", "T V", map[int]int{1: 0, 2: 0, 20: 0, 64: 0}},
		{"data T a = A (T (I a)) | B (T (K a)) | E V a", "T Int", map[int]int{1: 0, 2: 0, 20: 0, 64: 0}},
		{"data T a = A (T (I a)) | B (T (K a)) | E a", "T (Int -> Int)", map[int]int{1: 0, 2: 0, 20: 0, 64: 0}},
		{"data T a = A (T (D a)) | B (T (D (I a))) | E a", "T Bool", map[int]int{1: 0, 2: 2, 5: 4, 6: 0, 7: 4, 64: most}},
		{"data T a = A (T (P a Int)) | B (T (P Int a)) | E a", "T V", map[int]int{1: 0, 2: 0, 64: 0}},
		{"data T a = A (T (P a a)) | B (T (P a V)) | E a", "T V", map[int]int{1: 0, 2: 0, 64: 0}},
		{"data T a b = A (T (I a) b) b | B (T (K a) b) b | E", "T Int V", map[int]int{1: 1, 2: 0, 64: 0}},
		{"data T a b = A b (T (I a) b) | B b (T (M a) b) | E", "T Int (Int -> Int)", map[int]int{1: 1, 2: 0, 64: 0}},
		{"", "Bush Bool", map[int]int{1: 1, 2: 0, 3: 2, 5: 2, 20: 0, 63: most, 64: 0}},
		{"", "L (L (L (L Bool)))", map[int]int{1: 1, 2: 0, 3: 1, 64: 0, 63: most}},
	} {
		d := table(t, nested+x.data)
		l := types(t, x.ty)
		for size, want := range x.want {
			what := fmt.Sprint(x.data, " ", x.ty, " ", size)
			many, err := values.Count(d, l, size)
			same(t, what, err, api.OK)
			same(t, what, many, want)
			rows, err := values.Of(d, l[0], size)
			if want == most {
				same(t, what, err, api.ErrLong)
				want = 0
			}
			same(t, what, len(rows), want)
		}
	}
}

// With many more of some types than are told there are no more rows than of the others.
func TestManyBesideNone(t *testing.T) {
	d := table(t, nested+"data X a = X (L Int) a | Y a (L Int) | Z\ndata U = U\ndata H = H"+strings.Repeat(" U", 57))
	for _, ty := range []string{"X V", "X (P Int V)", "X (Int -> Int)", "X (D (K V))"} {
		all(t, d, ty, 64, "Z")
	}
	for _, text := range []string{"L Int; V", "V; L Int", "L Int; P V Int; L Int", "P (L Int) V; L Int", "L Int; D (Int -> Int)", "L Int; L Int; L Int; K V"} {
		all(t, d, text, 64, "")
	}
	// Nor where there are some, of other sizes.
	one := "H" + strings.Repeat(" U", 57)
	all(t, d, "H; L Int", 62, one+"; N / "+one+"; C 0 N / "+one+"; C 1 N | "+one+"; C (-1) N")
	all(t, d, "L Int; H", 62, "N; "+one+" / C 0 N; "+one+" / C 1 N; "+one+" | C (-1) N; "+one)
}

func TestVeryLarge(t *testing.T) {
	t.Parallel()
	d := table(t, nested)
	deep, end := con("Int"), con("K", con("Int"))
	for range 1 << 16 {
		deep = con("L", deep)
	}
	rows, err := values.All(d, []api.Type{deep}, 64)
	same(t, "deep", err, api.OK)
	same(t, "deep", lines(rows), "N")
	rows, err = values.All(d, []api.Type{con("K", deep), con("L", end)}, 64)
	same(t, "deep", err, api.OK)
	same(t, "deep", len(rows), 0)

	wide := slices.Repeat([]api.Type{con("Bool")}, 1<<18)
	many, err := values.Count(d, wide, 64)
	same(t, "wide", err, api.OK)
	same(t, "wide", many, 0)
	wide[1<<18-1] = con("L")
	refused(t, d, wide, 64, api.ErrArg)
	wide[1<<18-1] = types(t, "a -> a")[0]
	refused(t, d, wide, 64, api.ErrFirst)
}

// A table of very many constructors, of very many fields, of very many params.
func TestLargeTable(t *testing.T) {
	t.Parallel()
	const most = 1 << 14
	a := api.Type{Kind: api.KVar, Name: "a0"}
	wide := api.Data{Name: "W", Cons: []api.Constr{{Name: "W", Fields: slices.Repeat([]api.Type{con("Int")}, most)}, {Name: "W0"}, {Name: "W63", Fields: slices.Repeat([]api.Type{con("Int")}, 63)}, {Name: "W64", Fields: slices.Repeat([]api.Type{con("Int")}, 64)}}}
	bushy := api.Data{Name: "B", Cons: []api.Constr{{Name: "BA", Fields: []api.Type{a}}, {Name: "BV", Fields: []api.Type{{Kind: api.KVar, Name: "a1"}, con("V")}}}}
	self := con("B")
	for i := range most {
		bushy.Params = append(bushy.Params, fmt.Sprint("a", i))
		self.Args = append(self.Args, a)
	}
	bushy.Cons = append(bushy.Cons, api.Constr{Name: "BB", Fields: []api.Type{self}})
	many := api.Data{Name: "M"}
	for i := range most {
		many.Cons = append(many.Cons, api.Constr{Name: fmt.Sprint("M", i), Fields: []api.Type{con("M"), con("M"), con("M")}})
	}
	many.Cons = append(many.Cons, api.Constr{Name: "End"})
	d, fault := decl.New([]api.Data{wide, bushy, many, {Name: "V", Cons: []api.Constr{{Name: "V", Fields: []api.Type{con("V")}}}}})
	same(t, "large", fault, api.Fault{})
	rows, err := values.All(d, []api.Type{con("W")}, 64)
	same(t, "wide", err, api.OK)
	same(t, "wide", len(rows), 2)
	same(t, "wide", rows[0][0].Con+rows[1][0].Con, "W0W63")
	for i := range self.Args {
		self.Args[i] = con("Bool")
	}
	rows, err = values.All(d, []api.Type{self}, 64)
	same(t, "many params", err, api.OK)
	same(t, "many params", lines(rows), "BA False | BA True")
	for size, want := range map[int]int{1: 1, 2: 0, 3: 0, 4: api.MaxValues + 1, 64: api.MaxValues + 1} {
		n, err := values.Count(d, []api.Type{con("M")}, size)
		same(t, "many constructors", err, api.OK)
		same(t, "many constructors", n, want)
	}
}
