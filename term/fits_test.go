package term_test

import (
	"fmt"
	"slices"
	"strings"
	"testing"

	"changeling/api"
	"changeling/decl"
	"changeling/term"
)

// P19.3

const datas = `data L a = N | C a (L a)
data P a b = P a b | Q b
data F a = F (a -> a) Int | G
data T a = T (T a)
data E = E
data Z a b = Z Int (L b) (P b (L a))
data D a = D | M (D (P a a))`

func fits(t *testing.T, d *decl.Table, ty, text string, want bool) {
	t.Helper()
	fitsType(t, ty, d, typ(t, ty), text, want)
}

func fitsType(t *testing.T, what string, d *decl.Table, ty api.Type, text string, want bool) {
	t.Helper()
	x, fault := term.Read(text)
	same(t, text, fault, api.Fault{})
	same(t, text+" of "+what, term.Fits(d, ty, x), want)
}

func con(name string, args ...api.Type) api.Type {
	return api.Type{Kind: api.KCon, Name: name, Args: args}
}

func TestFits(t *testing.T) {
	d := table(t, datas)
	for ty, l := range map[string]struct{ yes, no []string }{
		"Int":               {yes: []string{"0", "1", "(-9223372036854775808)"}, no: []string{"True", "N", "Int", "C 1 N", "E"}},
		"a":                 {yes: []string{"0", "(-1)"}, no: []string{"True", "N", "E", "C 1 N"}},
		"z":                 {yes: []string{"0", "(-1)"}, no: []string{"N"}},
		"Bool":              {yes: []string{"True", "False"}, no: []string{"0", "1", "N", "E", "True 1", "Bool"}},
		"E":                 {yes: []string{"E"}, no: []string{"E E", "N", "0", "True"}},
		"L Int":             {yes: []string{"N", "C 1 N", "C (-1) (C 2 N)"}, no: []string{"0", "C", "C 1", "C 1 N N", "N N", "C N N", "C 1 1", "C 1 (C N N)", "C True N", "P 1 1", "E", "Q 1"}},
		"L b":               {yes: []string{"N", "C 1 N"}, no: []string{"C True N", "C N N"}},
		"L Bool":            {yes: []string{"N", "C True N", "C False (C True N)"}, no: []string{"C 1 N", "C True (C 1 N)", "C N N", "C True False"}},
		"L (L Int)":         {yes: []string{"N", "C N N", "C (C 1 N) N", "C N (C (C 1 (C 2 N)) N)"}, no: []string{"C 1 N", "C (C N N) N", "C N (C 1 N)", "C (C 1 1) N"}},
		"L (Int -> Int)":    {yes: []string{"N"}, no: []string{"C 1 N", "C N N", "C True N"}},
		"Int -> Int":        {no: []string{"0", "N", "True", "F 1 1"}},
		"P Int Bool":        {yes: []string{"P 1 True", "Q False"}, no: []string{"P True 1", "P 1 1", "Q 1", "P 1", "P", "Q", "Q True True", "P 1 True True"}},
		"P (P a Int) (L E)": {yes: []string{"P (P 1 2) N", "P (Q 1) (C E N)", "Q (C E (C E N))"}, no: []string{"P (P 1 E) N", "P (Q 1) (C 1 N)", "Q E"}},
		"F Int":             {yes: []string{"G"}, no: []string{"F 1 1", "F G 1", "F True 1", "G 1"}},
		"T Int":             {no: []string{"T 1", "T N", "T (T 1)", "0", "T"}},
		"Z Bool E": {yes: []string{"Z 1 N (P E N)", "Z 1 (C E N) (Q (C True N))"},
			no: []string{"Z 1 (C True N) (Q N)", "Z 1 N (P True N)", "Z 1 N (Q (C E N))", "Z E N (Q N)", "Z 1 N", "Z 1 N N"}},
		// Types that may be, and that the table does not know.
		"Int a": {no: []string{"0", "1"}}, "Bool Int": {no: []string{"True"}}, "E a": {no: []string{"E"}}, "L": {no: []string{"N", "C 1 N"}}, "L a b": {no: []string{"N", "C 1 N"}},
		"Q Int": {no: []string{"N", "0", "Q 1"}}, "L (Q Int)": {yes: []string{"N"}, no: []string{"C 1 N"}}, "L (Int Int)": {yes: []string{"N"}, no: []string{"C 1 N"}}, "L (L a b)": {yes: []string{"N", "C N N"}[:1], no: []string{"C N N", "C 1 N"}},
	} {
		for _, text := range l.yes {
			fits(t, d, ty, text, true)
		}
		for _, text := range l.no {
			fits(t, d, ty, text, false)
		}
	}
}

func TestFitsWrongTypes(t *testing.T) {
	d := table(t, datas)
	kInt := api.Type{Kind: api.KCon, Name: "Int"}
	for _, ty := range []api.Type{
		{}, {Kind: 4}, {Kind: -1}, {Kind: api.KVar, N: -1}, {Kind: api.KVar, N: 1<<30 + 1}, {Kind: api.KVar, Name: "a"}, {Kind: api.KVar, Args: []api.Type{kInt}},
		{Kind: api.KCon, Name: "Int", N: 1}, {Kind: api.KCon}, {Kind: api.KFun, Name: "Int", Args: []api.Type{kInt, kInt}}, {Kind: api.KFun}, {Kind: api.KFun, Args: []api.Type{kInt}},
	} {
		list := api.Type{Kind: api.KCon, Name: "L", Args: []api.Type{ty}}
		for _, x := range []api.Term{n(0), c("N"), c("True"), c("C", n(0), c("N")), {}} {
			same(t, ty, term.Fits(d, ty, x), false)
			same(t, list, term.Fits(d, list, x), false)
		}
	}
	for _, ty := range []api.Type{{Kind: api.KVar}, {Kind: api.KVar, N: 1 << 30}, {Kind: api.KCon, Name: "Int", Args: []api.Type{}}} {
		same(t, ty, term.Fits(d, ty, n(0)), true)
	}
}

// wide is P of types, of so many parts, which is not even.
func wide(parts int) api.Type {
	ty := con("Int")
	for ; parts > 1; parts -= 2 {
		ty = con("P", con("Int"), ty)
	}
	return ty
}

// A field's type has just so many parts, and one more.
func TestFitsLargeFields(t *testing.T) {
	d := table(t, "data L a = N | C a (L a)\ndata P a b = P a b | O\ndata W a = W a | V | U (P a a) | X (L (L a)) | Y Int | R (W a)\ndata B a b = B a | H b")
	const most = api.MaxType
	for _, x := range []struct {
		parts int
		text  string
		want  bool
	}{
		{most - 1, "W O", true}, {most + 1, "W O", false}, {most - 1, "V", true}, {most + 1, "V", true}, {1<<14 + 1, "V", true}, {1<<14 + 1, "W O", false},
		{127, "U O", true}, {127, "U (P O O)", true}, {129, "U O", false}, {1<<14 + 1, "U O", false}, {253, "X N", true}, {255, "X N", false}, {253, "X (C N N)", true}, {255, "X (C N N)", false}, {253, "X (C (C O N) N)", true},
		{1<<14 + 1, "Y 1", true}, {1<<14 + 1, "Y O", false}, {255, "R V", true}, {257, "R V", false}, {255, "R (R V)", true}, {255, "R (W O)", true},
	} {
		fitsType(t, fmt.Sprint("W of ", x.parts), d, con("W", wide(x.parts)), x.text, x.want)
	}
	even := con("L", wide(most-1))
	fitsType(t, "W of the most", d, con("W", even), "W N", true)
	fitsType(t, "W of the most", d, con("W", even), "W (C O N)", true)
	fitsType(t, "W of one more", d, con("W", con("L", even)), "W N", false)
	fitsType(t, "W of the most", d, con("W", even), "R V", false)
	// Only where the param is asked for.
	fitsType(t, "a large param", d, con("B", wide(1001), con("Int")), "H 1", true)
	fitsType(t, "a large param", d, con("B", wide(1001), con("Int")), "B O", false)
	fitsType(t, "a small param", d, con("B", wide(255), con("Int")), "B O", true)
}

// Args grow from field to field, until they are too large.
func TestFitsGrowing(t *testing.T) {
	d := table(t, datas)
	for depth := range 12 {
		text := strings.Repeat("M (", depth) + "D" + strings.Repeat(")", depth)
		// M's field is D of a type of 2^(depth+1) - 1 parts.
		fits(t, d, "D Int", text, depth < 8)
	}
	// Very many params, one of them very large, in a very large field.
	const many = 1 << 12
	big, field := con("R"), con("R")
	data := api.Data{Name: "R"}
	for i := range many {
		big.Args = append(big.Args, api.Type{Kind: api.KVar})
		field.Args = append(field.Args, api.Type{Kind: api.KVar, Name: "a7"})
		data.Params = append(data.Params, fmt.Sprint("a", i))
	}
	data.Cons = []api.Constr{{Name: "R", Fields: []api.Type{field}}, {Name: "S"}, {Name: "A", Fields: field.Args[:200]}}
	d, fault := decl.New([]api.Data{data})
	same(t, "wide", fault, api.Fault{})
	for range 3 {
		same(t, "wide", term.Fits(d, big, c("R", c("S"))), false)
		same(t, "wide", term.Fits(d, big, c("S")), true)
		same(t, "wide", term.Fits(d, big, c("A", make([]api.Term, 200)...)), big.Args[7].Kind == api.KVar)
		big = con("R", slices.Clone(big.Args)...)
		big.Args[7] = con("R", slices.Clone(big.Args)...)
	}
}

func TestNoTable(t *testing.T) {
	for _, d := range []*decl.Table{nil, {}} {
		for _, ty := range []string{"a", "Int"} {
			fits(t, d, ty, "5", true)
			fits(t, d, ty, "True", false)
		}
		for _, ty := range []string{"Bool", "L a", "Int Int", "Int -> Int"} {
			fits(t, d, ty, "5", false)
			fits(t, d, ty, "True", false)
			fits(t, d, ty, "N", false)
		}
		core, ok := term.Core(d, n(-5))
		same(t, "no table", core, cInt(-5))
		same(t, "no table", ok, true)
		for _, x := range []api.Term{c("True"), c("N"), c("C", n(1))} {
			core, ok := term.Core(d, x)
			same(t, x, core, api.Core{})
			same(t, x, ok, false)
		}
	}
}

// Names that no source has: a term of them may not be.
func TestNamesOfNoSource(t *testing.T) {
	kInt, odd := api.Type{Kind: api.KCon, Name: "Int"}, api.Type{Kind: api.KCon, Name: "odd"}
	unnamed := api.Type{Kind: api.KCon}
	d, fault := decl.New([]api.Data{
		{Name: "odd", Cons: []api.Constr{{Name: "con"}, {Name: "Con", Fields: []api.Type{kInt}}, {Name: "->", Fields: []api.Type{kInt}}}},
		{Name: "", Cons: []api.Constr{{Name: "A"}, {Name: "B", Fields: []api.Type{unnamed}}}},
	})
	same(t, "odd", fault, api.Fault{})
	same(t, "odd", term.Fits(d, odd, c("con")), false)
	same(t, "odd", term.Fits(d, odd, c("->", n(1))), false)
	same(t, "odd", term.Fits(d, odd, c("Con", n(1))), true)
	same(t, "unnamed", term.Fits(d, unnamed, c("A")), false)
	_, ok := term.Core(d, c("con"))
	same(t, "odd", ok, false)
	core, ok := term.Core(d, c("B", c("A")))
	same(t, "unnamed", core, cApp(cCon("B", 1, 1), cCon("A", 0, 0)))
	same(t, "unnamed", ok, true)
}

func TestCore(t *testing.T) {
	d := table(t, datas)
	for text, want := range map[string]api.Core{
		"0": cInt(0), "(-7)": cInt(-7), "(-9223372036854775808)": cInt(-1 << 63), "N": cCon("N", 0, 0), "True": cCon("True", 1, 0), "False": cCon("False", 0, 0), "G": cCon("G", 1, 0),
		"C (-1) N": cApp(cCon("C", 1, 2), cInt(-1), cCon("N", 0, 0)), "Q 3": cApp(cCon("Q", 1, 1), cInt(3)),
		"C (C 1 N) (P E (Q 2))": cApp(cCon("C", 1, 2), cApp(cCon("C", 1, 2), cInt(1), cCon("N", 0, 0)), cApp(cCon("P", 0, 2), cCon("E", 0, 0), cApp(cCon("Q", 1, 1), cInt(2)))),
		"Z 1 2 3":               cApp(cCon("Z", 0, 3), cInt(1), cInt(2), cInt(3)), "F N True": cApp(cCon("F", 0, 2), cCon("N", 0, 0), cCon("True", 1, 0)),
	} {
		x, _ := term.Read(text)
		core, ok := term.Core(d, x)
		same(t, text, core, want)
		same(t, text, ok, true)
	}
	for _, text := range []string{"C", "C 1", "C 1 2 3", "N 1", "A", "Int", "L", "A 1", "C 1 A", "C A N", "P (C 1) 2", "C 1 (C 1 (C 1))", "Z 1 2", "E 0", "True True"} {
		x, fault := term.Read(text)
		same(t, text, fault, api.Fault{})
		core, ok := term.Core(d, x)
		same(t, text, core, api.Core{})
		same(t, text, ok, false)
	}
}
