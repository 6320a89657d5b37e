package term_test

import (
	"fmt"
	"math"
	"reflect"
	"slices"
	"strings"
	"testing"

	"changeling/api"
	"changeling/decl"
	"changeling/parse"
	"changeling/show"
	"changeling/term"
)

// same holds what came against what should have come; a list without elements may be nil or empty.
func same(t *testing.T, what, got, want any) {
	t.Helper()
	if fmt.Sprintf("%T %#v", got, bare(got)) != fmt.Sprintf("%T %#v", want, bare(want)) {
		t.Errorf("%v: %v, not %v", what, got, want)
	}
}

// bare is something with nil for each list without elements.
func bare(x any) any {
	v := reflect.New(reflect.TypeOf(x)).Elem()
	v.Set(reflect.ValueOf(x))
	return baredValue(v).Interface()
}

func baredValue(v reflect.Value) reflect.Value {
	r := reflect.New(v.Type()).Elem()
	switch v.Kind() {
	case reflect.Struct:
		for i := range v.NumField() {
			r.Field(i).Set(baredValue(v.Field(i)))
		}
	case reflect.Slice:
		for i := range v.Len() {
			r = reflect.Append(r, baredValue(v.Index(i)))
		}
	default:
		r.Set(v)
	}
	return r
}

// Terms, expressions and core expressions, in short forms.

func n(n int64) api.Term { return api.Term{N: n} }

func c(name string, args ...api.Term) api.Term { return api.Term{Con: name, Args: args} }

func eInt(n int64) api.Expr { return api.Expr{Kind: api.EInt, N: n} }

func eCon(name string) api.Expr { return api.Expr{Kind: api.ECon, Name: name} }

func eVar(name string) api.Expr { return api.Expr{Kind: api.EVar, Name: name} }

func eApp(f api.Expr, l ...api.Expr) api.Expr {
	for _, a := range l {
		f = api.Expr{Kind: api.EApp, Args: []api.Expr{f, a}}
	}
	return f
}

func cInt(n int64) api.Core { return api.Core{Kind: api.CInt, N: n} }

func cCon(name string, tag int64, arity int) api.Core {
	return api.Core{Kind: api.CCon, Name: name, N: tag, Arity: arity}
}

func cApp(f api.Core, l ...api.Core) api.Core {
	for _, a := range l {
		f = api.Core{Kind: api.CApp, Args: []api.Core{f, a}}
	}
	return f
}

// table is the table of the data types that a source declares.
func table(t *testing.T, src string) *decl.Table {
	t.Helper()
	p, fault := parse.Program(src)
	same(t, src, fault, api.Fault{})
	d, fault := decl.New(p.Datas)
	same(t, src, fault, api.Fault{})
	return d
}

// typ is the type of a text; a, b and so on are the variables 0, 1 and so on.
func typ(t *testing.T, text string) api.Type {
	t.Helper()
	p, fault := parse.Program("data X = X (" + text + ")")
	same(t, text, fault, api.Fault{})
	return numbered(p.Datas[0].Cons[0].Fields[0])
}

func numbered(ty api.Type) api.Type {
	if ty.Kind == api.KVar {
		return api.Type{Kind: api.KVar, N: int(ty.Name[0] - 'a')}
	}
	r := api.Type{Kind: ty.Kind, Name: ty.Name}
	for _, a := range ty.Args {
		r.Args = append(r.Args, numbered(a))
	}
	return r
}

var (
	long    = "C" + strings.Repeat("x", api.MaxName-1)
	tooLong = long + "x"
)

// rights are terms that may be, with their sizes, texts and expressions.
func rights() []struct {
	t    api.Term
	size int
	text string
	e    api.Expr
} {
	const most = 1 << 30
	return []struct {
		t    api.Term
		size int
		text string
		e    api.Expr
	}{
		{n(0), 1, "0", eInt(0)},
		{n(1), 2, "1", eInt(1)},
		{n(-1), 2, "(-1)", eInt(-1)},
		{n(7), 8, "7", eInt(7)},
		{n(most - 2), most - 1, "1073741822", eInt(most - 2)},
		{n(2 - most), most - 1, "(-1073741822)", eInt(2 - most)},
		{n(most - 1), most, "1073741823", eInt(most - 1)},
		{n(most), most, "1073741824", eInt(most)},
		{n(-most), most, "(-1073741824)", eInt(-most)},
		{n(math.MaxInt64), most, "9223372036854775807", eInt(math.MaxInt64)},
		{n(math.MinInt64), most, "(-9223372036854775808)", eInt(math.MinInt64)},
		{n(math.MinInt64 + 1), most, "(-9223372036854775807)", eInt(math.MinInt64 + 1)},
		{n(1 << 32), most, "4294967296", eInt(1 << 32)},
		{c("N"), 1, "N", eCon("N")},
		{c("C'_1a"), 1, "C'_1a", eCon("C'_1a")},
		{c(long), 1, long, eCon(long)},
		{c("N", []api.Term{}...), 1, "N", eCon("N")},
		{api.Term{Con: "N", Args: []api.Term{}}, 1, "N", eCon("N")},
		{api.Term{N: 3, Args: []api.Term{}}, 4, "3", eInt(3)},
		{c("C", n(-1), c("N")), 4, "C (-1) N", eApp(eCon("C"), eInt(-1), eCon("N"))},
		{c("C", n(0)), 2, "C 0", eApp(eCon("C"), eInt(0))},
		{c("C", c("C", c("C"))), 3, "C (C C)", eApp(eCon("C"), eApp(eCon("C"), eCon("C")))},
		{c("C", c("D", n(1)), c("E"), c("F", n(-2), n(3))), 13, "C (D 1) E (F (-2) 3)",
			eApp(eCon("C"), eApp(eCon("D"), eInt(1)), eCon("E"), eApp(eCon("F"), eInt(-2), eInt(3)))},
		{c("C", n(1<<29-1), n(3-1<<29)), most - 1, "C 536870911 (-536870909)", eApp(eCon("C"), eInt(1<<29-1), eInt(3-1<<29))},
		{c("C", n(1<<29-1), n(2-1<<29)), most, "C 536870911 (-536870910)", eApp(eCon("C"), eInt(1<<29-1), eInt(2-1<<29))},
		{c("C", n(1<<29-1), n(1<<29-1)), most, "C 536870911 536870911", eApp(eCon("C"), eInt(1<<29-1), eInt(1<<29-1))},
		{c("C", n(most-1), n(0)), most, "C 1073741823 0", eApp(eCon("C"), eInt(most-1), eInt(0))},
		{c("C", n(0), n(math.MinInt64), n(math.MinInt64)), most, "C 0 (-9223372036854775808) (-9223372036854775808)",
			eApp(eCon("C"), eInt(0), eInt(math.MinInt64), eInt(math.MinInt64))},
		{c("C", c("C", n(most-3)), n(0)), most, "C (C 1073741821) 0", eApp(eCon("C"), eApp(eCon("C"), eInt(most-3)), eInt(0))},
		{c("C", c("C", n(most-4))), most - 1, "C (C 1073741820)", eApp(eCon("C"), eApp(eCon("C"), eInt(most-4)))},
	}
}

// wrongs are terms that may not be.
func wrongs() []api.Term {
	l := []api.Term{
		{Args: []api.Term{n(1)}},
		{N: 2, Args: []api.Term{n(1)}},
		{Args: []api.Term{c("N"), c("N")}},
		{Con: "C", N: 1},
		{Con: "C", N: -1},
		{Con: "C", N: math.MinInt64, Args: []api.Term{n(1)}},
	}
	for _, name := range []string{"c", "->", "+", "_", "1", "-1", "data", "x'", "(C)", " C", "C ", "C D", "C\n", "C--", "C.D", "'C", "\u00c4", "C\u00e4", "C\x00", "=", tooLong, strings.Repeat("C", 1<<20)} {
		l = append(l, c(name), c(name, n(1)))
	}
	for _, t := range l[:12] {
		l = append(l, c("C", t), c("C", n(1), t), c("C", t, n(1)), c("C", c("D", n(1), t), n(2)), c("C", c("C", c("C", t))))
	}
	return l
}

// P19.1

func TestRight(t *testing.T) {
	for _, x := range rights() {
		same(t, x.text, term.Right(x.t), true)
		same(t, x.text, term.Size(x.t), x.size)
		same(t, x.text, term.Text(x.t), x.text)
		same(t, x.text, term.Expr(x.t), x.e)
		same(t, x.text, show.Expr(term.Expr(x.t)), x.text)
		back, ok := term.Of(x.e)
		same(t, x.text, ok, true)
		same(t, x.text, back, x.t)
	}
}

func TestWrong(t *testing.T) {
	d := table(t, "data L a = N | C a | D a a")
	for _, x := range wrongs() {
		what := fmt.Sprintf("%.200v", x)
		same(t, what, term.Right(x), false)
		same(t, what, term.Size(x), 0)
		same(t, what, term.Text(x), "")
		same(t, what, term.Expr(x), api.Expr{})
		core, ok := term.Core(d, x)
		same(t, what, core, api.Core{})
		same(t, what, ok, false)
		for _, ty := range []string{"a", "Int", "L a", "L Int", "L (L Int)"} {
			same(t, what, term.Fits(d, typ(t, ty), x), false)
		}
	}
}

// What may not be is the same as itself, too.
func TestSame(t *testing.T) {
	var l []api.Term
	for _, x := range rights() {
		if x.text != "N" && x.text != "3" { // they are there twice
			l = append(l, x.t)
		}
	}
	l = append(l, wrongs()...)
	l = append(l, c("N"), c("N", n(0)), c("N", n(0), n(0)), c("N", n(1), n(0)), c("N", n(0), n(1)), c("N", c("N")), api.Term{Con: "N", N: 1}, n(3), n(-3), c(""+"3"))
	for i, a := range l {
		for j, b := range l {
			if term.Same(a, b) != reflect.DeepEqual(a, b) {
				t.Errorf("%d, %d: %.200v, %.200v", i, j, a, b)
			}
		}
	}
	for _, pair := range [][2]api.Term{
		{n(3), {N: 3, Args: []api.Term{}}}, {c("N"), {Con: "N", Args: []api.Term{}}}, {c("C", n(1), c("N")), c("C", api.Term{N: 1, Args: []api.Term{}}, c("N", []api.Term{}...))},
	} {
		same(t, pair, term.Same(pair[0], pair[1]), true)
		same(t, pair, term.Same(pair[1], pair[0]), true)
	}
}

// notOf tells that an expression is no term.
func notOf(t *testing.T, e api.Expr) {
	t.Helper()
	x, ok := term.Of(e)
	if ok || !reflect.DeepEqual(x, api.Term{}) {
		t.Errorf("%.300v: %v, %v", e, x, ok)
	}
}

func TestNoTerm(t *testing.T) {
	one, con := eInt(1), eCon("C")
	for _, e := range []api.Expr{
		{}, {Kind: 99}, {Kind: -1}, {Kind: api.EVar + 7}, eVar("x"), eVar("+"), eCon("c"), eCon(""), eCon("+"), eCon("->"), eCon(tooLong), eCon("C D"),
		eApp(one, one), eApp(eInt(-1), con), eApp(eVar("x"), one), eApp(eVar("+"), one, one), eApp(eApp(one, con), con), eApp(con, one, eVar("x")), eApp(con, eVar("x"), one),
		eApp(con, eApp(one, one)), eApp(con, eApp(con, eApp(con, eVar("x")), one), one), eApp(eCon("c"), one), eApp(con, eCon("c")),
		{Kind: api.EApp}, {Kind: api.EApp, Args: []api.Expr{con}}, {Kind: api.EApp, Args: []api.Expr{con, one, one}}, {Kind: api.EApp, Name: "C", Args: []api.Expr{one, one}},
		eApp(con, api.Expr{Kind: api.EApp, Args: []api.Expr{con}}), eApp(api.Expr{Kind: api.EApp, Args: []api.Expr{con}}, one), eApp(con, api.Expr{}), eApp(api.Expr{}, one),
	} {
		notOf(t, e)
	}
	for _, text := range []string{"\\x -> C", "let { x = 1 } in C", "case C of { _ -> C }", "if True then C else C", "1 + 2", "C + C", "f C"} {
		e, fault := parse.Expr(text, nil)
		same(t, text, fault, api.Fault{})
		notOf(t, e)
		notOf(t, eApp(con, e))
		notOf(t, eApp(e, one))
		notOf(t, eApp(con, one, e, one))
	}
}

// spoilt are expressions with one field more somewhere.
func spoilt(e api.Expr) []api.Expr {
	with := func(change func(*api.Expr)) api.Expr {
		r := parse.Bare(e)
		change(&r)
		return r
	}
	l := []api.Expr{
		with(func(e *api.Expr) { e.Params = []string{"x"} }),
		with(func(e *api.Expr) { e.Alts = []api.Alt{{Pat: api.Pat{Kind: api.PAny}, Rhs: []api.Rhs{{Body: eInt(1)}}}} }),
		with(func(e *api.Expr) {
			e.Binds = []api.Bind{{Name: "x", Clauses: []api.Clause{{Rhs: []api.Rhs{{Body: eInt(1)}}}}}}
		}),
		with(func(e *api.Expr) { e.Args = append(e.Args, eInt(1)) }),
	}
	if e.Kind != api.EInt {
		l = append(l, with(func(e *api.Expr) { e.N = 1 }), with(func(e *api.Expr) { e.N = math.MinInt64 }))
	}
	if e.Kind != api.ECon {
		l = append(l, with(func(e *api.Expr) { e.Name = "C" }), with(func(e *api.Expr) { e.Name = "x" }))
	}
	for i, a := range e.Args {
		for _, s := range spoilt(a) {
			l = append(l, with(func(e *api.Expr) { e.Args[i] = s }))
		}
	}
	return l
}

func TestFieldsTooMany(t *testing.T) {
	for _, x := range rights() {
		for _, e := range spoilt(x.e) {
			notOf(t, e)
		}
	}
}

// placed is an expression with places that are none of a source's.
func placed(e api.Expr, at int) api.Expr {
	r := parse.Bare(e)
	r.At = api.Pos{Line: at, Col: -at}
	for i, a := range r.Args {
		r.Args[i] = placed(a, at*3+i)
	}
	r.Params, r.Alts, r.Binds = []string{}, []api.Alt{}, []api.Bind{}
	if len(r.Args) == 0 {
		r.Args = []api.Expr{}
	}
	return r
}

func TestPlaces(t *testing.T) {
	for _, x := range rights() {
		got, ok := term.Of(placed(x.e, 5))
		same(t, x.text, got, x.t)
		same(t, x.text, ok, true)
	}
}

// P19.2

func read(t *testing.T, text string, want api.Term) {
	t.Helper()
	got, fault := term.Read(text)
	same(t, text, fault, api.Fault{})
	same(t, text, got, want)
}

func TestRead(t *testing.T) {
	for _, x := range rights() {
		read(t, x.text, x.t)
		read(t, "(("+x.text+"))", x.t)
	}
	for text, want := range map[string]api.Term{
		"  N  ": c("N"), "(N)": c("N"), "(0)": n(0), "(- 5)": n(-5), "((- 5))": n(-5), "(-5)": n(-5), "(9223372036854775807)": n(math.MaxInt64), "(- 9223372036854775808)": n(math.MinInt64),
		"(C) 1": c("C", n(1)), "(C 1) 2": c("C", n(1), n(2)), "((C) (1)) ((2))": c("C", n(1), n(2)), "C(C)(C)": c("C", c("C"), c("C")), "C C C": c("C", c("C"), c("C")), "(C C) C": c("C", c("C"), c("C")), "C (C C)": c("C", c("C", c("C"))),
		"C\n 1\n  N -- one\n -- more\n (C\n  2\n  N)": c("C", n(1), c("N"), c("C", n(2), c("N"))), "\n\n  C\n   1": c("C", n(1)), "{ C 1 }": c("C", n(1)), "{C\n1}": c("C", n(1)),
	} {
		read(t, text, want)
	}
	for text, want := range map[string]api.Fault{
		"":                        {Err: api.ErrParse, At: api.Pos{Line: 1, Col: 1}},
		"-- C":                    {Err: api.ErrParse, At: api.Pos{Line: 1, Col: 1}},
		"C (":                     {Err: api.ErrParse, At: api.Pos{Line: 1, Col: 3}},
		"C )":                     {Err: api.ErrParse, At: api.Pos{Line: 1, Col: 3}},
		"C = 1":                   {Err: api.ErrParse, At: api.Pos{Line: 1, Col: 3}},
		"C -1 -":                  {Err: api.ErrParse, At: api.Pos{Line: 1, Col: 6}},
		"C\nD":                    {Err: api.ErrParse, At: api.Pos{Line: 2, Col: 1}},
		"C 1 \"":                  {Err: api.ErrChar, At: api.Pos{Line: 1, Col: 5}},
		"C 007":                   {Err: api.ErrNumber, At: api.Pos{Line: 1, Col: 3}},
		"C 9223372036854775808":   {Err: api.ErrNumber, At: api.Pos{Line: 1, Col: 3}},
		"C (-9223372036854775809": {Err: api.ErrNumber, At: api.Pos{Line: 1, Col: 5}},
		tooLong:                   {Err: api.ErrLong, At: api.Pos{Line: 1, Col: 1}},
		"1 < 2 < 3":               {Err: api.ErrFix, At: api.Pos{Line: 1, Col: 7}},
		"x < y < C":               {Err: api.ErrFix, At: api.Pos{Line: 1, Col: 7}},
		// Expressions that are no terms.
		"f x": {Err: api.ErrFirst, At: api.Pos{Line: 1, Col: 1}}, "x": {Err: api.ErrFirst, At: api.Pos{Line: 1, Col: 1}}, "(+)": {Err: api.ErrFirst, At: api.Pos{Line: 1, Col: 2}},
		"  C x": {Err: api.ErrFirst, At: api.Pos{Line: 1, Col: 3}}, "\n 1 1": {Err: api.ErrFirst, At: api.Pos{Line: 2, Col: 2}}, "(((C 1) x) 2)": {Err: api.ErrFirst, At: api.Pos{Line: 1, Col: 4}},
		"C 1\n + 2": {Err: api.ErrFirst, At: api.Pos{Line: 2, Col: 2}}, "C -1": {Err: api.ErrFirst, At: api.Pos{Line: 1, Col: 3}}, "1 - 2": {Err: api.ErrFirst, At: api.Pos{Line: 1, Col: 3}}, "C (1 + 2)": {Err: api.ErrFirst, At: api.Pos{Line: 1, Col: 1}},
		"if True then C else C": {Err: api.ErrFirst, At: api.Pos{Line: 1, Col: 1}}, " (\\x -> C)": {Err: api.ErrFirst, At: api.Pos{Line: 1, Col: 3}}, "let { } in C": {Err: api.ErrParse, At: api.Pos{Line: 1, Col: 7}},
		"let x = 1 in C": {Err: api.ErrFirst, At: api.Pos{Line: 1, Col: 1}}, "case C of { C -> C }": {Err: api.ErrFirst, At: api.Pos{Line: 1, Col: 1}}, "{ C x }": {Err: api.ErrFirst, At: api.Pos{Line: 1, Col: 3}},
	} {
		got, fault := term.Read(text)
		same(t, text, got, api.Term{})
		same(t, text, fault, want)
	}
}

// What parse refuses, Read refuses alike; ways of binding are none's but num's.
func TestReadAsParse(t *testing.T) {
	words := []string{"C", "x", "1", "(", ")", "-", "+", "\n"}
	var grow func(text string, more int)
	grow = func(text string, more int) {
		e, want := parse.Expr(text, nil)
		got, fault := term.Read(text)
		x, ok := term.Of(e)
		if want == (api.Fault{}) && !ok {
			want = api.Fault{Err: api.ErrFirst, At: e.At}
		}
		same(t, text, fault, want)
		same(t, text, got, x)
		for _, w := range words[:len(words)*min(more, 1)] {
			grow(text+" "+w, more-1)
		}
	}
	grow("", 4)
}

func TestReadAsLongAsMayBe(t *testing.T) {
	// The most tokens: the block's brackets are none of the source's.
	text := "C" + strings.Repeat(" N", api.MaxTokens-1)
	read(t, text, c("C", slices.Repeat([]api.Term{c("N")}, api.MaxTokens-1)...))
	_, fault := term.Read(text + " N")
	same(t, "a token more", fault, api.Fault{Err: api.ErrLong, At: api.Pos{Line: 1, Col: 2*api.MaxTokens + 1}})
	// The most bytes.
	name := strings.Repeat("N", api.MaxName)
	text = "C" + strings.Repeat(" "+name, (api.MaxSource-1)/(api.MaxName+1))
	want := c("C", slices.Repeat([]api.Term{c(name)}, (api.MaxSource-1)/(api.MaxName+1))...)
	text += strings.Repeat(" ", api.MaxSource-len(text))
	read(t, text, want)
	_, fault = term.Read(text + " ")
	same(t, "a byte more", fault, api.Fault{Err: api.ErrLong, At: api.Pos{Line: 1, Col: 1}})
	// As deep as may be.
	deep := strings.Repeat("C (", 600) + "N" + strings.Repeat(")", 600)
	want = c("N")
	for range 600 {
		want = c("C", want)
	}
	read(t, deep, c("C", want.Args...))
	got, _ := term.Read(deep)
	same(t, "deep", term.Size(got), 601)
}

// The chapter's examples.

func TestExamples(t *testing.T) {
	x, fault := term.Read("C (-1) N")
	same(t, "C (-1) N", fault, api.Fault{})
	same(t, "C (-1) N", term.Size(x), 4)
	_, fault = term.Read("f x")
	same(t, "f x", fault.Err, api.ErrFirst)
}
