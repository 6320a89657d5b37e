package values_test

import (
	"fmt"
	"math"
	"reflect"
	"slices"
	"strings"
	"testing"

	"changeling/api"
	"changeling/decl"
	"changeling/parse"
	"changeling/term"
	"changeling/values"
)

func same(t *testing.T, what, got, want any) {
	t.Helper()
	if !reflect.DeepEqual(got, want) {
		t.Error(cut(what)+":", cut(got), "not", cut(want))
	}
}

// cut is the beginning of something's text.
func cut(x any) string {
	s := fmt.Sprint(x)
	return s[:min(len(s), 500)]
}

// table is the table of the data types that a source declares.
func table(t *testing.T, src string) *decl.Table {
	t.Helper()
	p, fault := parse.Program(src)
	same(t, src, fault, api.Fault{})
	d, fault := decl.New(p.Datas)
	same(t, src, fault, api.Fault{})
	return d
}

// typ is the type of a text; a, b and so on are the variables 0, 1 and so on.
func typ(t *testing.T, text string) api.Type {
	t.Helper()
	p, fault := parse.Program("data X = X (" + text + ")")
	same(t, text, fault, api.Fault{})
	return ofNumbers(p.Datas[0].Cons[0].Fields[0])
}

// ofNumbers is a type with numbers for its variables' names.
func ofNumbers(ty api.Type) api.Type {
	r := api.Type{Kind: ty.Kind, Name: ty.Name}
	if ty.Kind == api.KVar {
		r.Name, r.N = "", int(ty.Name[0]-'a')
	}
	for _, a := range ty.Args {
		r.Args = append(r.Args, ofNumbers(a))
	}
	return r
}

// types are those of a text, parted by `; `.
func types(t *testing.T, text string) []api.Type {
	t.Helper()
	var l []api.Type
	for s := range strings.SplitSeq(text, "; ") {
		if s != "" {
			l = append(l, typ(t, s))
		}
	}
	return l
}

func con(name string, args ...api.Type) api.Type {
	return api.Type{Kind: api.KCon, Name: name, Args: args}
}

// line is a row's text.
func line(row []api.Term) string {
	var l []string
	for _, x := range row {
		l = append(l, term.Text(x))
	}
	return strings.Join(l, "; ")
}

func lines(rows [][]api.Term) string {
	var l []string
	for _, row := range rows {
		l = append(l, line(row))
	}
	return strings.Join(l, " | ")
}

const datas = `data L a = N | C a (L a)
data P a b = P a b
data V = V V
data S = Z | S S
data F a = F (a -> a) Int | G | H Int
data M a = O | J a
data K a = K
data T a = T a (T (P a a)) | U
data W a = W Int (M a)
data Q a b = Q b (M a) b | R
data Big a = Big (P a (P a (P a a))) | Small a`

// all asks for all rows up to a bound, by sizes, parted by ` / `; or for the error.
func all(t *testing.T, d *decl.Table, text string, bound int, want any) {
	t.Helper()
	l := types(t, text)
	rows, err := values.All(d, l, bound)
	what := fmt.Sprint(text, " up to ", bound)
	if wanted, ok := want.(api.Errno); ok {
		same(t, what, err, wanted)
		same(t, what, len(rows), 0)
		return
	}
	same(t, what, err, api.OK)
	var bySize []string
	for size := range bound + 1 {
		var part [][]api.Term
		for _, row := range rows {
			if sizeOf(row) == size {
				part = append(part, row)
			}
		}
		if len(part) > 0 || size == bound {
			bySize = append(bySize, lines(part))
		}
		many, err := values.Count(d, l, size)
		same(t, what, err, api.OK)
		same(t, what, many, len(part))
		if len(l) == 1 {
			of(t, d, l[0], size, part)
		}
	}
	same(t, what, strings.TrimSuffix(strings.Join(bySize, " / "), " / "), want)
	same(t, what, slices.IsSortedFunc(rows, func(a, b []api.Term) int { return sizeOf(a) - sizeOf(b) }), true)
}

// of asks for a type's values of a size: they are to be those rows.
func of(t *testing.T, d *decl.Table, ty api.Type, size int, rows [][]api.Term) {
	t.Helper()
	l, err := values.Of(d, ty, size)
	same(t, ty, err, api.OK)
	same(t, ty, len(l), len(rows))
	for i, x := range l {
		same(t, ty, term.Same(x, rows[i][0]), true)
	}
}

func sizeOf(row []api.Term) int {
	all := 0
	for _, x := range row {
		all += term.Size(x)
	}
	return all
}

// P20.1, P20.2

func TestAll(t *testing.T) {
	d := table(t, datas)
	for _, x := range []struct {
		types string
		bound int
		want  string
	}{
		{"Int", 4, "0 / 1 | (-1) / 2 | (-2) / 3 | (-3)"},
		{"a", 3, "0 / 1 | (-1) / 2 | (-2)"},
		{"z", 2, "0 / 1 | (-1)"},
		{"Int", 1, "0"}, {"Int", 0, ""}, {"Bool", 0, ""}, {"V", 0, ""},
		{"Bool", 1, "False | True"}, {"Bool", 2, "False | True"}, {"Bool", 64, "False | True"},
		{"Bool; Int", 3, "False; 0 | True; 0 / False; 1 | False; (-1) | True; 1 | True; (-1)"},
		{"Int; Bool", 3, "0; False | 0; True / 1; False | 1; True | (-1); False | (-1); True"},
		{"Int; Int", 4, "0; 0 / 0; 1 | 0; (-1) | 1; 0 | (-1); 0 / 0; 2 | 0; (-2) | 1; 1 | 1; (-1) | (-1); 1 | (-1); (-1) | 2; 0 | (-2); 0"},
		{"Bool; Bool; Bool", 3, "False; False; False | False; False; True | False; True; False | False; True; True | True; False; False | True; False; True | True; True; False | True; True; True"},
		{"Int; Int; Int", 4, "0; 0; 0 / 0; 0; 1 | 0; 0; (-1) | 0; 1; 0 | 0; (-1); 0 | 1; 0; 0 | (-1); 0; 0"},
		{"Int; Int", 1, ""}, {"Int; Int; Int", 2, ""},
		{"L Int", 5, "N / C 0 N / C 1 N | C (-1) N / C 0 (C 0 N) | C 2 N | C (-2) N"},
		{"L Bool", 5, "N / C False N | C True N / C False (C False N) | C False (C True N) | C True (C False N) | C True (C True N)"},
		{"L (L Int)", 5, "N / C N N / C N (C N N) | C (C 0 N) N"},
		{"L (L Int)", 6, "N / C N N / C N (C N N) | C (C 0 N) N / C (C 1 N) N | C (C (-1) N) N"},
		{"L a; L b", 4, "N; N / N; C 0 N | C 0 N; N"},
		{"P Int Bool", 4, "P 0 False | P 0 True / P 1 False | P 1 True | P (-1) False | P (-1) True"},
		{"P Bool (M Int)", 4, "P False O | P True O / P False (J 0) | P True (J 0)"},
		{"V", 64, ""}, {"V; Int", 64, ""}, {"Int; V", 64, ""}, {"L V", 64, "N"}, {"M V", 64, "O"}, {"P V Int", 64, ""}, {"K V", 64, "K"},
		{"S", 4, "Z / S Z / S (S Z) / S (S (S Z))"},
		{"F Int", 3, "G / H 0 / H 1 | H (-1)"}, {"F (Int -> Int)", 2, "G / H 0"},
		{"L (Int -> Int)", 64, "N"}, {"M (a -> b)", 64, "O"}, {"K (Int -> Int)", 3, "K"}, {"P Int (Int -> Bool)", 64, ""}, {"W (a -> a)", 4, "W 0 O / W 1 O | W (-1) O"},
		{"K Int; K Bool", 64, "K; K"},
		{"T Int", 7, "U / T 0 U / T 1 U | T (-1) U / T 2 U | T (-2) U / T 3 U | T (-3) U / T 0 (T (P 0 0) U) | T 4 U | T (-4) U"},
		{"W Int", 4, "W 0 O / W 0 (J 0) | W 1 O | W (-1) O"},
		{"Q Int Bool", 4, "R / Q False O False | Q False O True | Q True O False | Q True O True"},
		{"Q V Int", 5, "R / Q 0 O 0 / Q 0 O 1 | Q 0 O (-1) | Q 1 O 0 | Q (-1) O 0"},
		{"M (M (M Bool))", 4, "O / J O / J (J O) / J (J (J False)) | J (J (J True))"},
	} {
		all(t, d, x.types, x.bound, x.want)
	}
}

// Of no types there is one row, of no size.
func TestNoTypes(t *testing.T) {
	d := table(t, datas)
	for _, l := range [][]api.Type{nil, {}} {
		for _, bound := range []int{0, 1, 64} {
			rows, err := values.All(d, l, bound)
			same(t, bound, err, api.OK)
			same(t, bound, len(rows), 1)
			same(t, bound, len(rows[0]), 0)
			many, err := values.Count(d, l, bound)
			same(t, bound, err, api.OK)
			same(t, bound, many, max(0, 1-bound))
		}
	}
}

// refused asks whether all calls refuse likewise; Of and Count are asked of the types, if they are as many as they take.
func refused(t *testing.T, d *decl.Table, l []api.Type, bound int, want api.Errno) {
	t.Helper()
	what := fmt.Sprint(l, bound)
	rows, err := values.All(d, l, bound)
	same(t, what, err, want)
	same(t, what, len(rows), 0)
	many, err := values.Count(d, l, bound)
	same(t, what, err, want)
	same(t, what, many, 0)
	if len(l) == 1 {
		l, err := values.Of(d, l[0], bound)
		same(t, what, err, want)
		same(t, what, len(l), 0)
	}
}

func TestErrors(t *testing.T) {
	d := table(t, datas)
	right := []string{"", "Int", "Bool; Int", "L (L a)", "Int -> Int", "Bool; a -> a"}
	unknown := []string{"X", "L X", "L", "L a b", "Int a", "Bool Int", "L (P Int)", "P Int", "Int; X", "X; Int", "L X; Int", "Int -> X", "X -> Int", "L (Int -> L)", "Int; Int -> Int; X", "Int -> Int; L", "K X", "N", "False"}
	wrong := []api.Type{
		{}, {Kind: 4}, {Kind: -1}, {Kind: api.KVar, N: -1}, {Kind: api.KVar, N: 1<<30 + 1}, {Kind: api.KVar, Name: "a"}, {Kind: api.KVar, Args: []api.Type{con("Int")}},
		{Kind: api.KCon, Name: "Int", N: 1}, {Kind: api.KCon}, {Kind: api.KFun}, {Kind: api.KFun, Name: "Int", Args: types(t, "Int; Int")}, {Kind: api.KFun, N: 1, Args: types(t, "Int; Int")}, {Kind: api.KFun, Args: types(t, "Int; Int; Int")},
	}
	for _, bound := range []int{-1, 0, 1, 64, 65, math.MinInt, math.MaxInt, 1 << 32} {
		known := bound >= 0 && bound <= api.MaxSize
		for _, text := range append(slices.Clone(right), unknown...) {
			l := types(t, text)
			refused(t, nil, l, bound, api.ErrNil)
			switch {
			case !known || slices.Contains(unknown, text):
				refused(t, d, l, bound, api.ErrArg)
			case strings.Contains(text, ">"):
				refused(t, d, l, bound, api.ErrFirst)
			}
		}
		for _, ty := range wrong {
			refused(t, nil, []api.Type{ty}, bound, api.ErrNil)
			for _, l := range [][]api.Type{{ty}, {con("L", ty)}, {con("Int"), ty}, {typ(t, "a -> a"), ty}, {{Kind: api.KFun, Args: []api.Type{con("Int"), ty}}}, {con("K", con("K", ty))}} {
				refused(t, d, l, bound, api.ErrArg)
			}
		}
	}
	// Too many rows are told of last.
	all(t, d, "Int; Int; Int", 64, api.ErrLong)
	refused(t, d, types(t, "Int; Int; Int; Int -> Int"), 64, api.ErrFirst)
	refused(t, d, types(t, "Int; Int; Int; X"), 64, api.ErrArg)
	refused(t, d, types(t, "Int; Int; Int"), 65, api.ErrArg)
	all(t, d, "Int; Int; Int; V", 64, "")
}

// A table that New did not make has no data types.
func TestEmptyTable(t *testing.T) {
	d := &decl.Table{}
	for _, text := range []string{"Int", "Bool", "L Int", "Int -> Int"} {
		refused(t, d, types(t, text), 3, api.ErrArg)
	}
	refused(t, d, types(t, "a -> a"), 3, api.ErrFirst)
	all(t, d, "a; b", 3, "0; 0 / 0; 1 | 0; (-1) | 1; 0 | (-1); 0")
}

const bools = `data L a = N | C a (L a)
data S = Z | S S
data B = B Bool Bool Bool Bool Bool Bool Bool Bool Bool Bool Bool Bool
data Just = X | Y B
data More = D B | E S
data Odd = Odd B Bool | Even Just Bool`

// Just as many rows as may be, and one more.
func TestJustAsMany(t *testing.T) {
	d := table(t, bools)
	const most = api.MaxValues
	for _, x := range []struct {
		times int // so often the types
		types string
		size  int
		all   int // up to the size, none if too many
		count int
	}{
		{12, "Bool", 12, most, most},
		{12, "Bool", 64, most, 0},
		{13, "Bool", 13, -1, most + 1},
		{13, "Bool", 12, 0, 0},
		{11, "Bool", 11, most / 2, most / 2},
		{1, "B", 13, most, most}, {1, "B", 12, 0, 0}, {1, "B", 64, most, 0},
		{1, "Just", 14, -1, most}, {1, "Just", 13, 1, 0}, {1, "Just", 1, 1, 1}, {1, "Just", 64, -1, 0},
		{1, "More", 14, -1, most + 1}, {1, "More", 13, 12, 1}, {1, "More", 15, -1, 1},
		{1, "Odd", 15, -1, most + 1}, {1, "Odd", 3, 2, 2}, {1, "Odd", 14, 2, 0},
		{1, "L Bool", 25, -1, most}, {1, "L Bool", 23, most - 1, most / 2}, {1, "L Bool", 24, most - 1, 0}, {1, "L Bool", 27, -1, most + 1}, {1, "L Bool", 63, -1, most + 1}, {1, "L Bool", 64, -1, 0},
		{1, "L Bool; S", 24, -1, most - 1}, {1, "Just; S", 15, -1, most + 1}, {1, "B; Bool", 14, -1, most + 1},
		{1, "Int", 64, 127, 2}, {1, "Int; Int", 45, 3785, 172}, {1, "Int; Int", 46, 3961, 176}, {1, "Int; Int", 47, -1, 180},
		{32, "Int", 64, -1, most + 1}, {64, "Int", 64, 1, 1}, {64, "Int", 63, 0, 0}, {63, "Int", 64, 127, 126}, {65, "Int", 64, 0, 0},
		{3, "L Int", 64, -1, most + 1}, {5000, "L Int", 64, 0, 0},
	} {
		l := slices.Repeat(types(t, x.types), x.times)
		what := fmt.Sprintf("%d %s %d", x.times, x.types, x.size)
		rows, err := values.All(d, l, x.size)
		if x.all < 0 {
			same(t, what, err, api.ErrLong)
			same(t, what, len(rows), 0)
		} else {
			same(t, what, err, api.OK)
			same(t, what, len(rows), x.all)
		}
		many, err := values.Count(d, l, x.size)
		same(t, what, err, api.OK)
		same(t, what, many, x.count)
		if len(l) != 1 {
			continue
		}
		one, err := values.Of(d, l[0], x.size)
		if x.count > most {
			same(t, what, err, api.ErrLong)
			x.count = 0
		} else {
			same(t, what, err, api.OK)
		}
		same(t, what, len(one), x.count)
	}
}

const larges = `
data X a = X a | X1 | X2 Int
data Y a = Y (M (M a)) | Y1 (P a a)
data A a b = A (M a) | A1 (M b)
data G a = G0 | G1 (G (P a (P Int (P Int (P Int Int)))))`

// A field's type has just as many parts as may be, and one more.
func TestLargeFields(t *testing.T) {
	d := table(t, datas+larges)
	large := func(parts int) api.Type {
		ty := con("Int")
		for ; parts > 1; parts -= 2 {
			ty = con("P", con("Int"), ty)
		}
		return ty
	}
	const most = api.MaxType
	for _, x := range []struct {
		ty   api.Type
		want string // of the sizes up to 3
	}{
		{con("M", con("M", large(most-1))), "O | J O"}, {con("M", con("M", large(most+1))), "O"}, {con("M", large(most+1)), "O"}, {con("M", large(1<<14+1)), "O"},
		{con("X", con("M", large(most-1))), "X1 | X O | X2 0 | X2 1 | X2 (-1)"}, {con("X", con("M", con("M", large(most-1)))), "X1 | X2 0 | X2 1 | X2 (-1)"}, {con("X", con("K", large(most-1))), "X1 | X K | X2 0 | X2 1 | X2 (-1)"}, {con("X", con("K", large(most+1))), "X1 | X2 0 | X2 1 | X2 (-1)"},
		{con("Y", large(most-3)), "Y O | Y (J O)"}, {con("Y", large(most-1)), ""}, {con("Y", con("K", large(125))), "Y O | Y (J O)"}, {con("Y", con("M", large(125))), "Y O | Y (J O)"},
		{con("A", large(most-1), large(most+1)), "A O"}, {con("A", large(most+1), large(most-1)), "A1 O"}, {con("A", large(most+1), con("Int")), "A1 O | A1 (J 0)"}, {con("A", large(most+1), large(most+1)), ""},
		{con("L", con("L", large(most-3))), "N | C N N"}, {con("L", con("L", large(most-1))), "N"},
	} {
		rows, err := values.All(d, []api.Type{x.ty}, 3)
		same(t, x.ty, err, api.OK)
		same(t, x.ty, lines(rows), x.want)
	}
	// It is so large as it is declared.
	d, fault := decl.New([]api.Data{{Name: "P", Params: []string{"a", "b"}, Cons: []api.Constr{{Name: "O"}}}, {Name: "M", Params: []string{"a"}, Cons: []api.Constr{{Name: "M"}}},
		{Name: "D", Cons: []api.Constr{{Name: "A", Fields: []api.Type{con("M", large(most-1))}}, {Name: "B", Fields: []api.Type{large(most + 1)}}}}})
	same(t, "declared", fault, api.Fault{})
	all(t, d, "D", 9, "A M")
	d = table(t, datas+larges)
	// Args grow from field to field, until they are too large: twice as large, and by a few parts.
	for parts, want := range map[int]int{1: 5, 3: 5, 15: 3, 61: 2, 63: 1, 125: 1, 127: 0, 257: 0, 1001: 0} {
		rows, err := values.All(d, []api.Type{con("T", con("K", large(parts)))}, 64)
		same(t, parts, err, api.OK)
		depth := 0
		for _, row := range rows {
			depth = max(depth, strings.Count(line(row), "T"))
		}
		same(t, parts, depth, want)
	}
	for parts, most := range map[int]int{1: 32, 3: 32, 129: 16, 247: 2, 249: 1, 1001: 1} {
		rows, err := values.All(d, []api.Type{con("G", large(parts))}, 64)
		same(t, parts, err, api.OK)
		same(t, parts, len(rows), most)
	}
}

// The constructors of data types of other names than a source's have values, too; of those that may not be there are none.
func TestNamesOfNoSource(t *testing.T) {
	unnamed := api.Type{Kind: api.KCon}
	d, fault := decl.New([]api.Data{
		{Name: "->", Cons: []api.Constr{{Name: ""}, {Name: "x y", Fields: []api.Type{con("->")}}}},
		{Name: "", Cons: []api.Constr{{Name: "A"}}},
		{Name: "M", Params: []string{"a"}, Cons: []api.Constr{{Name: "B", Fields: []api.Type{unnamed}}, {Name: "C", Fields: []api.Type{con("M", unnamed)}}, {Name: "D"}, {Name: "E", Fields: []api.Type{con("M", con("->"))}}, {Name: "F", Fields: types(t, "Int -> Int")}}},
	})
	same(t, "odd", fault, api.Fault{})
	l, err := values.Of(d, con("->"), 3)
	same(t, "odd", err, api.OK)
	same(t, "odd", fmt.Sprint(l), "[{x y 0 [{x y 0 [{ 0 []}]}]}]")
	refused(t, d, []api.Type{unnamed}, 3, api.ErrArg)
	refused(t, d, []api.Type{con("M", unnamed)}, 3, api.ErrArg)
	rows, err := values.All(d, []api.Type{con("M", con("Int"))}, 3)
	same(t, "unnamed", err, api.OK)
	same(t, "unnamed", lines(rows), "D | E D | E (E D)")
}

// The chapter's examples.

func TestExamples(t *testing.T) {
	d := table(t, "")
	l, err := values.Of(d, con("Int"), 3)
	same(t, "Int", err, api.OK)
	same(t, "Int", line(l), "2; (-2)")
	l, err = values.Of(d, con("Bool"), 1)
	same(t, "Bool", err, api.OK)
	same(t, "Bool", line(l), "False; True")
	all(t, d, "Bool; Int", 3, "False; 0 | True; 0 / False; 1 | False; (-1) | True; 1 | True; (-1)")
}

// Rule 3

func spoil(l []api.Term) {
	for i := range l {
		spoil(l[i].Args)
		l[i] = api.Term{Con: "spoilt", N: 9}
	}
}

func TestNothingIsShared(t *testing.T) {
	d := table(t, datas)
	l := types(t, "L Int; P (L Int) (L Int)")
	given := fmt.Sprint(l)
	rows, err := values.All(d, l, 9)
	same(t, "rows", err, api.OK)
	var texts []string
	for _, row := range rows {
		texts = append(texts, line(row))
	}
	for i, row := range rows {
		same(t, i, line(row), texts[i])
		for j := range row {
			before := line(row[j+1:])
			for k := range row[j].Args {
				behind := line(row[j].Args[k+1:])
				spoil(row[j].Args[:k+1])
				same(t, i, line(row[j].Args[k+1:]), behind)
			}
			same(t, i, line(row[j+1:]), before)
		}
		spoil(row)
	}
	same(t, "types", fmt.Sprint(l), given)
	one, _ := values.Of(d, l[0], 9)
	texts = nil
	for _, x := range one {
		texts = append(texts, term.Text(x))
	}
	for i, x := range one {
		same(t, i, term.Text(x), texts[i])
		spoil(x.Args)
	}
	again, _ := values.Of(d, l[0], 9)
	same(t, "again", term.Text(again[0]), texts[0])
}
