package decl_test

import (
	"reflect"
	"slices"
	"strings"
	"testing"

	"changeling/api"
	"changeling/decl"
)

// Short ways to write parts.

func at(line, col int) api.Pos { return api.Pos{Line: line, Col: col} }

func tvar(name string) api.Type { return api.Type{Kind: api.KVar, Name: name} }
func tcon(name string, l ...api.Type) api.Type {
	return api.Type{Kind: api.KCon, Name: name, Args: l}
}
func fun(l ...api.Type) api.Type { return api.Type{Kind: api.KFun, Args: l} }
func num(n int) api.Type         { return api.Type{Kind: api.KVar, N: n} }

func data(name, params string, line int, l ...api.Constr) api.Data {
	return api.Data{Name: name, Params: strings.Fields(params), Cons: l, At: at(line, 1)}
}
func constr(name string, place api.Pos, l ...api.Type) api.Constr {
	return api.Constr{Name: name, Fields: l, At: place}
}

// simple are data types of each kind.
func simple() []api.Data {
	return []api.Data{
		data("L", "a", 1, constr("N", at(1, 9)), constr("C", at(1, 13), tvar("a"), tcon("L", tvar("a")))),
		data("P", "a b", 2, constr("P", at(2, 9), tvar("b"), tcon("L", tcon("P", tvar("a"), tcon("Int"))), fun(tvar("a"), fun(tcon("Bool"), tvar("b"))))),
		data("U", "", 3, constr("U", at(3, 9)), constr("T'", at(3, 11), fun(fun(tcon("U"), tcon("U")), tcon("U"))), constr("V", at(3, 13), tcon("Int"))),
	}
}

func table(t *testing.T, l ...api.Data) *decl.Table {
	t.Helper()
	d, f := decl.New(l)
	if f != (api.Fault{}) || d == nil {
		t.Fatal(f)
	}
	return d
}

func same(t *testing.T, got, want any) {
	t.Helper()
	if !reflect.DeepEqual(got, want) {
		t.Errorf("%v, not %v", got, want)
	}
}

// P8.2

func wantFalse() api.Con { return api.Con{Name: "False", Data: "Bool"} }
func wantTrue() api.Con  { return api.Con{Name: "True", Data: "Bool", Tag: 1} }

// simpleCons are the constructors of simple.
func simpleCons() []api.Con {
	return []api.Con{
		{Name: "N", Data: "L", Params: 1},
		{Name: "C", Data: "L", Tag: 1, Params: 1, Fields: []api.Type{num(0), tcon("L", num(0))}},
		{Name: "P", Data: "P", Params: 2, Fields: []api.Type{num(1), tcon("L", tcon("P", num(0), tcon("Int"))), fun(num(0), fun(tcon("Bool"), num(1)))}},
		{Name: "U", Data: "U"},
		{Name: "T'", Data: "U", Tag: 1, Fields: []api.Type{fun(fun(tcon("U"), tcon("U")), tcon("U"))}},
		{Name: "V", Data: "U", Tag: 2, Fields: []api.Type{tcon("Int")}},
	}
}

func TestAlwaysThere(t *testing.T) {
	for _, d := range []*decl.Table{table(t), table(t, []api.Data{}...), table(t, simple()...)} {
		for i, want := range []api.Con{wantFalse(), wantTrue()} {
			c, ok := d.Con(want.Name)
			same(t, c, want)
			same(t, ok, true)
			same(t, d.All()[i], want)
			ty, ok := d.Type(want.Name)
			same(t, ty, tcon("Bool"))
			same(t, ok, true)
		}
		same(t, d.Cons("Bool"), []api.Con{wantFalse(), wantTrue()})
		same(t, len(d.Cons("Int")), 0)
		for _, name := range []string{"Int", "Bool"} {
			n, ok := d.Data(name)
			same(t, n, 0)
			same(t, ok, true)
		}
	}
	same(t, len(table(t).All()), 2)
}

func TestDeclared(t *testing.T) {
	d := table(t, simple()...)
	same(t, d.All(), append([]api.Con{wantFalse(), wantTrue()}, simpleCons()...))
	for _, want := range simpleCons() {
		c, ok := d.Con(want.Name)
		same(t, c, want)
		same(t, ok, true)
	}
	same(t, d.Cons("L"), simpleCons()[:2])
	same(t, d.Cons("P"), simpleCons()[2:3])
	same(t, d.Cons("U"), simpleCons()[3:])
	for name, want := range map[string]int{"L": 1, "P": 2, "U": 0} {
		n, ok := d.Data(name)
		same(t, n, want)
		same(t, ok, true)
	}
}

func TestType(t *testing.T) {
	d := table(t, simple()...)
	p := simpleCons()[2].Fields
	for name, want := range map[string]api.Type{
		"N":  tcon("L", num(0)),
		"C":  fun(num(0), fun(tcon("L", num(0)), tcon("L", num(0)))),
		"P":  fun(p[0], fun(p[1], fun(p[2], tcon("P", num(0), num(1))))),
		"U":  tcon("U"),
		"T'": fun(fun(fun(tcon("U"), tcon("U")), tcon("U")), tcon("U")),
		"V":  fun(tcon("Int"), tcon("U")),
	} {
		ty, ok := d.Type(name)
		same(t, ty, want)
		same(t, ok, true)
	}
}

// none asks whether a table has nothing of a name.
func none(t *testing.T, d *decl.Table, con, of string) {
	t.Helper()
	c, ok := d.Con(con)
	same(t, c, api.Con{})
	same(t, ok, false)
	ty, ok := d.Type(con)
	same(t, ty, api.Type{})
	same(t, ok, false)
	n, ok := d.Data(of)
	same(t, n, 0)
	same(t, ok, false)
	same(t, len(d.Cons(of)), 0)
}

func TestNamesThatAreNone(t *testing.T) {
	d := table(t, simple()...)
	for _, name := range []string{"", "X", "c", "n", "N ", "TRUE", "a", "_", "+", "Int", "Bool", "L"} {
		none(t, d, name, "no "+name)
	}
	for _, name := range []string{"", "X", "l", "L ", "a", "N", "C", "True", "False", "V", "T'"} {
		none(t, d, "no "+name, name)
	}
}

func TestNoTable(t *testing.T) {
	var d *decl.Table
	for _, name := range []string{"", "True", "False", "Int", "Bool", "L"} {
		none(t, d, name, name)
	}
	same(t, len(d.All()), 0)
	d = &decl.Table{} // Told by nobody what it has: but it must not panic.
	d.Con("True")
	d.Cons("Bool")
	d.Data("Int")
	d.Type("True")
	d.All()
}

// Unlike kinds of names are apart.
func TestOneNameOfUnlikeKinds(t *testing.T) {
	d := table(t, data("A", "A B", 1, constr("Int", at(1, 2), tvar("B"), tcon("A", tvar("A"), tcon("B"))), constr("Bool", at(1, 3))), data("B", "", 2, constr("A", at(2, 2)), constr("B", at(2, 2))))
	want := []api.Con{
		wantFalse(), wantTrue(),
		{Name: "Int", Data: "A", Params: 2, Fields: []api.Type{num(1), tcon("A", num(0), tcon("B"))}}, {Name: "Bool", Data: "A", Tag: 1, Params: 2},
		{Name: "A", Data: "B"}, {Name: "B", Data: "B", Tag: 1},
	}
	same(t, d.All(), want)
	same(t, d.Cons("A"), want[2:4])
	same(t, d.Cons("B"), want[4:])
	same(t, d.Cons("Bool"), want[:2])
}

// What the chapter does not ask for is not asked: a data type may have no constructors, any text may be a name.
func TestWhatIsNotAsked(t *testing.T) {
	d := table(t, data("", "", 1), data("no", "", 2, constr("", at(2, 2), tcon(""), tcon("no")), constr(" ", at(2, 3))))
	same(t, d.All()[2:], []api.Con{{Name: "", Data: "no", Fields: []api.Type{tcon(""), tcon("no")}}, {Name: " ", Data: "no", Tag: 1}})
	n, ok := d.Data("")
	same(t, n, 0)
	same(t, ok, true)
	same(t, len(d.Cons("")), 0)
	ty, ok := d.Type("")
	same(t, ty, fun(tcon(""), fun(tcon("no"), tcon("no"))))
	same(t, ok, true)
}

// Fields that a kind does not have are zero in what is answered.
func TestOtherFieldsAreZero(t *testing.T) {
	v, c, f := tvar("a"), tcon("L", tvar("a")), fun(tvar("a"), tvar("a"))
	v.N, v.Args, c.N, f.N, f.Name = 7, []api.Type{tvar("a")}, 8, 9, "f"
	d := table(t, data("L", "b a", 1, constr("C", at(1, 2), v, f)), data("M", "a", 2, constr("D", at(2, 2), fun(tcon("M", v), f))))
	same(t, d.All()[2:], []api.Con{{Name: "C", Data: "L", Params: 2, Fields: []api.Type{num(1), fun(num(1), num(1))}}, {Name: "D", Data: "M", Params: 1, Fields: []api.Type{fun(tcon("M", num(0)), fun(num(0), num(0)))}}})
	c.Args = append(c.Args, tcon("Int"))
	d = table(t, data("L", "a b", 1, constr("C", at(1, 2), c)))
	same(t, d.Cons("L")[0].Fields, []api.Type{tcon("L", num(0), tcon("Int"))})
}

// P8.1

// faulty asks for the fault of declarations.
func faulty(t *testing.T, err api.Errno, place api.Pos, l ...api.Data) {
	t.Helper()
	d, f := decl.New(l)
	if want := (api.Fault{Err: err, At: place}); f != want || d != nil {
		t.Errorf("%v, %v, not %v, of %v", d, f, want, l)
	}
}

func TestNamesOfDataTypes(t *testing.T) {
	c := constr("C", at(1, 9))
	faulty(t, api.ErrTwice, at(5, 1), data("Int", "", 5, c))
	faulty(t, api.ErrTwice, at(5, 1), data("Bool", "", 5, c))
	faulty(t, api.ErrTwice, at(5, 1), data("A", "", 4, c), data("A", "a", 5))
	faulty(t, api.ErrTwice, at(6, 1), data("A", "", 4, c), data("B", "", 5), data("A", "", 6), data("B", "", 7))
	faulty(t, api.ErrTwice, api.Pos{}, api.Data{Name: "Int"})
	faulty(t, api.ErrTwice, at(-1, -2), api.Data{Name: "Bool", At: at(-1, -2)})
}

func TestNamesOfParams(t *testing.T) {
	faulty(t, api.ErrTwice, at(2, 1), data("B", "a b c", 1), data("A", "a b a", 2), data("C", "c c", 3))
	faulty(t, api.ErrTwice, at(2, 1), data("A", "b a a", 2))
	faulty(t, api.ErrTwice, at(2, 1), api.Data{Name: "A", Params: []string{"", ""}, At: at(2, 1)})
	// Of one data type its name is looked at first, but the place is one.
	faulty(t, api.ErrTwice, at(2, 1), data("A", "a a", 2), data("Int", "", 3))
	faulty(t, api.ErrTwice, at(2, 1), data("Int", "a a", 2), data("A", "b b", 3))
	// Params of unlike data types may be the same.
	table(t, data("A", "a b", 1, constr("A", at(1, 2), tvar("b"))), data("B", "b a", 2, constr("B", at(2, 2), tvar("b"))))
}

func TestNamesOfConstructors(t *testing.T) {
	for _, name := range []string{"True", "False"} {
		faulty(t, api.ErrTwice, at(1, 7), data("A", "", 1, constr("C", at(1, 5)), constr(name, at(1, 7))))
	}
	faulty(t, api.ErrTwice, at(1, 7), data("A", "", 1, constr("C", at(1, 5)), constr("C", at(1, 7))))
	faulty(t, api.ErrTwice, at(2, 7), data("A", "", 1, constr("D", at(1, 5)), constr("C", at(1, 6))), data("B", "", 2, constr("E", at(2, 5)), constr("C", at(2, 7)), constr("E", at(2, 8))))
	// Its name is looked at ahead of its fields.
	faulty(t, api.ErrTwice, at(2, 7), data("A", "", 2, constr("C", at(2, 5)), constr("C", at(2, 7), tvar("a"))))
}

func TestFields(t *testing.T) {
	place := at(1, 5)
	for _, ty := range []struct {
		err api.Errno
		api.Type
	}{
		{api.ErrNone, tvar("c")}, {api.ErrNone, tvar("")}, {api.ErrNone, tvar("A")}, {api.ErrNone, tcon("X")}, {api.ErrNone, tcon("")}, {api.ErrNone, tcon("a")}, {api.ErrNone, tcon("C")},
		{api.ErrNone, tcon("X", tvar("a"))}, {api.ErrNone, tcon("True")},
		{api.ErrArity, tcon("A")}, {api.ErrArity, tcon("A", tvar("a"))}, {api.ErrArity, tcon("A", tvar("a"), tvar("b"), tvar("a"))}, {api.ErrArity, tcon("Int", tvar("a"))}, {api.ErrArity, tcon("Bool", tcon("Int"))},
		{api.ErrArity, tcon("L")}, {api.ErrArity, tcon("L", tvar("a"), tvar("a"))}, {api.ErrArity, tcon("U", tcon("U"))},
		{api.ErrArity, fun()}, {api.ErrArity, fun(tvar("a"))}, {api.ErrArity, fun(tvar("a"), tvar("a"), tvar("a"))},
		{api.ErrArity, api.Type{}}, {api.ErrArity, api.Type{Kind: 4}}, {api.ErrArity, api.Type{Kind: -1, Name: "a"}}, {api.ErrArity, api.Type{Kind: 4, Name: "Int"}}, {api.ErrArity, api.Type{Kind: 1 << 40, Args: []api.Type{tvar("a"), tvar("b")}}},
		// From the outside in.
		{api.ErrArity, tcon("L", tvar("a"), tvar("c"))}, {api.ErrNone, tcon("X", tcon("L"))}, {api.ErrArity, fun(tvar("c"))}, {api.ErrArity, api.Type{Kind: 7, Args: []api.Type{tvar("c")}}},
		{api.ErrNone, tcon("L", tcon("X", tcon("L")))}, {api.ErrArity, tcon("L", tcon("L", tcon("X"), tcon("X")))}, {api.ErrNone, fun(tcon("L", tvar("c")), tcon("L"))},
		{api.ErrArity, fun(tcon("L"), tvar("c"))}, {api.ErrNone, fun(tvar("a"), fun(tvar("b"), tvar("c")))}, {api.ErrArity, fun(tcon("A", tcon("A", tvar("a"), fun(tvar("b"))), tvar("c")), tvar("c"))},
		{api.ErrNone, tcon("A", tcon("L", tcon("L", tvar("c"))), tcon("L"))},
	} {
		others := func(c api.Constr) []api.Data {
			return []api.Data{data("A", "a b", 9, c, constr("D", at(2, 5), tcon("L"))), data("L", "c", 8, constr("E", at(3, 5), tvar("x"))), data("U", "", 7)}
		}
		faulty(t, ty.err, place, others(constr("C", place, ty.Type))...)
		faulty(t, ty.err, place, others(constr("C", place, tvar("a"), tcon("L", tvar("b")), ty.Type))...)
		// From the left.
		faulty(t, ty.err, place, others(constr("C", place, ty.Type, tcon("L"), tvar("c"), api.Type{}))...)
	}
}

// Data types that are declared behind are there, too.
func TestDeclaredBehind(t *testing.T) {
	d := table(t, data("A", "a", 1, constr("A", at(1, 2), tcon("B", tvar("a"), tcon("A", tvar("a"))))), data("B", "a b", 2, constr("B", at(2, 2), tcon("A", tvar("b")))))
	same(t, d.Cons("A")[0].Fields, []api.Type{tcon("B", num(0), tcon("A", num(0)))})
	same(t, d.Cons("B")[0].Fields, []api.Type{tcon("A", num(1))})
	faulty(t, api.ErrArity, at(1, 2), data("A", "a", 1, constr("A", at(1, 2), tcon("B", tvar("a")))), data("B", "a b", 2))
}

func TestOrderOfFaults(t *testing.T) {
	bad := constr("C", at(1, 9), tvar("x"))
	// All data types ahead of all constructors.
	faulty(t, api.ErrTwice, at(2, 1), data("A", "", 1, bad), data("A", "", 2))
	faulty(t, api.ErrTwice, at(2, 1), data("A", "", 1, bad), data("B", "b b", 2))
	faulty(t, api.ErrTwice, at(3, 1), data("A", "", 1, bad), data("B", "b", 2, constr("True", at(2, 9))), data("Int", "", 3))
	// Constructor by constructor, each name ahead of its fields, but behind the fields of those ahead.
	faulty(t, api.ErrNone, at(1, 9), data("A", "", 1, bad, constr("C", at(1, 11))))
	faulty(t, api.ErrNone, at(1, 9), data("A", "", 1, bad), data("B", "", 2, constr("True", at(2, 9))))
	faulty(t, api.ErrTwice, at(1, 8), data("A", "", 1, constr("True", at(1, 8)), bad))
}

// P8.4: but also of what is wrong.
func TestBehindAFault(t *testing.T) {
	faulty(t, api.ErrNone, at(1, 9), append(simple(), data("A", "", 1, constr("X", at(1, 9), tvar("x"))), data("B", "", 2, constr("Y", at(2, 9), tvar("x"))))...)
}

// What is handed in is not kept, and what is answered is new.

func spoil(l []api.Type) {
	for i := range l {
		spoil(l[i].Args)
		l[i] = api.Type{Kind: 9, N: 9, Name: "spoilt"}
	}
}

func spoilCons(l []api.Con) {
	for i := range l {
		spoil(l[i].Fields)
		l[i] = api.Con{Name: "spoilt"}
	}
}

func TestNothingIsSharedOrChanged(t *testing.T) {
	given := simple()
	d := table(t, given...)
	same(t, given, simple())
	for i := range given {
		for j := range given[i].Cons {
			spoil(given[i].Cons[j].Fields)
			given[i].Cons[j] = api.Constr{}
		}
		for j := range given[i].Params {
			given[i].Params[j] = "spoilt"
		}
		given[i] = api.Data{}
	}
	all := append([]api.Con{wantFalse(), wantTrue()}, simpleCons()...)
	same(t, d.All(), all)
	for range 2 {
		spoilCons(d.All())
		for _, name := range []string{"Bool", "L", "P", "U"} {
			spoilCons(d.Cons(name))
		}
		for _, c := range all {
			got, _ := d.Con(c.Name)
			spoil(got.Fields)
			whole, _ := d.Type(c.Name)
			spoil(whole.Args)
		}
		same(t, d.All(), all)
		same(t, slices.Concat(d.Cons("Bool"), d.Cons("L"), d.Cons("P"), d.Cons("U")), all)
		whole, _ := d.Type("C")
		same(t, whole, fun(num(0), fun(tcon("L", num(0)), tcon("L", num(0)))))
	}
}

// One list of an answer is not another one's.
func TestListsOfAnAnswerAreApart(t *testing.T) {
	shared := []api.Type{tvar("a"), tvar("a")}
	f := fun(shared...)
	d := table(t, data("A", "a", 1, constr("C", at(1, 2), f, f), constr("D", at(1, 3), f)))
	l := d.Cons("A")
	spoil(l[0].Fields[0].Args)
	same(t, l[0].Fields[1], fun(num(0), num(0)))
	same(t, l[1].Fields[0], fun(num(0), num(0)))
	whole, _ := d.Type("C")
	spoil(whole.Args[0].Args)
	same(t, whole.Args[1], fun(fun(num(0), num(0)), tcon("A", num(0))))
}

// P1

func TestDeepFields(t *testing.T) {
	const depth = 1 << 16
	for _, within := range []func(api.Type) api.Type{
		func(ty api.Type) api.Type { return tcon("L", ty) },
		func(ty api.Type) api.Type { return fun(tvar("a"), ty) },
		func(ty api.Type) api.Type { return fun(ty, tvar("a")) },
	} {
		ty, wrong := tvar("a"), tvar("b")
		for range depth {
			ty, wrong = within(ty), within(wrong)
		}
		d := table(t, data("L", "a", 1, constr("C", at(1, 2), ty)))
		if whole, ok := d.Type("C"); !ok || whole.Kind != api.KFun {
			t.Error(whole.Kind, ok)
		}
		if _, f := decl.New([]api.Data{data("L", "a", 1, constr("C", at(1, 2), wrong))}); f != (api.Fault{Err: api.ErrNone, At: at(1, 2)}) {
			t.Error(f)
		}
	}
}

func TestManyDeclarations(t *testing.T) {
	var params []string
	var cons []api.Constr
	var datas []api.Data
	var fields []api.Type
	for i := range 1 << 16 {
		name := strings.Repeat("x", i%7) + string(rune('!'+i%90)) + string(rune('!'+i/90%90)) + string(rune('!'+i/8100))
		params = append(params, name)
		cons = append(cons, constr(name, at(1, i), tvar(name)))
		datas = append(datas, data(name, "", i))
		fields = append(fields, tvar(name))
	}
	d := table(t, append(datas, api.Data{Name: "A", Params: params, Cons: append(cons, constr("F", at(1, 1), fields...))})...)
	if n, ok := d.Data("A"); n != 1<<16 || !ok {
		t.Error(n, ok)
	}
	c, ok := d.Con("F")
	if c.Tag != 1<<16 || len(c.Fields) != 1<<16 || c.Fields[1<<16-1].N != 1<<16-1 || !ok {
		t.Error(c.Tag, ok)
	}
	whole, ok := d.Type("F")
	for i := range 1 << 16 {
		if whole.Args[0].N != i || !ok {
			t.Fatal(i)
		}
		whole = whole.Args[1]
	}
	if len(whole.Args) != 1<<16 || whole.Args[1<<16-1].N != 1<<16-1 {
		t.Error(len(whole.Args))
	}
	if l := d.All(); len(l) != 1<<16+3 || l[1<<16+1].Tag != 1<<16-1 {
		t.Error(len(l))
	}
}
