package decl_test

import (
	"reflect"
	"slices"
	"testing"

	"changeling/api"
	"changeling/decl"
)

// The chapter's words once more: all that is wrong with declarations, each with when it is looked at; what is wrong first of all is held against New.

// wrong is something that is wrong, and when it is looked at: the numbers that tell it are compared one by one.
type wrong struct {
	when  []int
	fault api.Fault
}

type wrongs []wrong

func (w *wrongs) add(err api.Errno, at api.Pos, when ...int) {
	*w = append(*w, wrong{when, api.Fault{Err: err, At: at}})
}

// first is what is wrong first of all.
func (w wrongs) first() api.Fault {
	if len(w) == 0 {
		return api.Fault{}
	}
	return slices.MinFunc(w, func(a, b wrong) int { return slices.Compare(a.when, b.when) }).fault
}

// paramsOf is how many params a data type of a name has, below 0 of none.
func paramsOf(l []api.Data, name string) int {
	if name == "Int" || name == "Bool" {
		return 0
	}
	for _, d := range l {
		if d.Name == name {
			return len(d.Params)
		}
	}
	return -1
}

func (w *wrongs) types(l []api.Data, params []string, place api.Pos, ty api.Type, when []int) {
	for i, a := range ty.Args {
		w.types(l, params, place, a, slices.Concat(when, []int{i}))
	}
	switch ty.Kind {
	case api.KVar:
		if !slices.Contains(params, ty.Name) {
			w.add(api.ErrNone, place, when...)
		}
	case api.KCon:
		if n := paramsOf(l, ty.Name); n < 0 {
			w.add(api.ErrNone, place, when...)
		} else if n != len(ty.Args) {
			w.add(api.ErrArity, place, when...)
		}
	case api.KFun:
		if len(ty.Args) != 2 {
			w.add(api.ErrArity, place, when...)
		}
	default:
		w.add(api.ErrArity, place, when...)
	}
}

// faults are all that is wrong with declarations, the last ones first.
func faults(l []api.Data) wrongs {
	var w wrongs
	cons := []string{"True", "False"}
	names := []string{"Int", "Bool"}
	for i, d := range l {
		for j, c := range d.Cons {
			for k, ty := range c.Fields {
				w.types(l, d.Params, c.At, ty, []int{1, i, j, 1, k})
			}
			if slices.Contains(cons, c.Name) {
				w.add(api.ErrTwice, c.At, 1, i, j, 0)
			}
			cons = append(cons, c.Name)
		}
		for j, name := range d.Params {
			if slices.Index(d.Params, name) < j {
				w.add(api.ErrTwice, d.At, 0, i, 1)
			}
		}
		if slices.Contains(names, d.Name) {
			w.add(api.ErrTwice, d.At, 0, i, 0)
		}
		names = append(names, d.Name)
	}
	slices.Reverse(w)
	return w
}

// chain makes choices, always the same.
type chain uint32

func (c *chain) pick(n int) int {
	*c = *c*1664525 + 1013904223
	return int(*c>>16) % n
}

// seldom is true once in n times.
func (c *chain) seldom(n int) bool { return c.pick(n) == 0 }

func (c *chain) word(l ...string) string { return l[c.pick(len(l))] }

// declaring makes declarations with little that is wrong: once in so many times.
type declaring struct {
	chain
	wrong int
	cons  int
	datas []api.Data
}

func (d *declaring) place() api.Pos { return at(d.pick(99), d.pick(99)) }

func (d *declaring) typ(params []string, depth int) api.Type {
	inner := func() api.Type { return d.typ(params, d.pick(depth)) }
	args := func(n int) []api.Type {
		if d.seldom(d.wrong) {
			n = d.pick(4)
		}
		var l []api.Type
		for range n {
			l = append(l, inner())
		}
		return l
	}
	switch {
	case depth == 0 && d.seldom(d.wrong):
		return []api.Type{tvar(d.word("a", "z", "")), tcon(d.word("A", "Z", "")), {}, {Kind: 4}, fun()}[d.pick(5)]
	case depth == 0 && len(params) > 0 && d.pick(2) == 0:
		return tvar(params[d.pick(len(params))])
	case depth == 0:
		return tcon(d.word("Int", "Bool"))
	case d.pick(3) == 0:
		return fun(args(2)...)
	case d.seldom(d.wrong):
		return api.Type{Kind: d.pick(7) - 1, Name: d.word("a", "A"), Args: args(2)}
	}
	name := d.word("A", "B", "C", "Int")
	return tcon(name, args(max(0, paramsOf(d.datas, name)))...)
}

func (d *declaring) data(i int) api.Data {
	name := []string{"A", "B", "C", "D", "E"}[i]
	if d.seldom(d.wrong) {
		name = d.word("A", "B", "Int", "Bool")
	}
	params := []string{"a", "b", "c"}[:d.pick(4)]
	if d.seldom(d.wrong) {
		params = []string{"a", "b", d.word("a", "b", "c")}
	}
	return api.Data{Name: name, Params: slices.Clone(params), At: d.place()}
}

func (d *declaring) constrs(params []string) []api.Constr {
	var l []api.Constr
	for range d.pick(4) {
		d.cons++
		name := string(rune('A' + d.cons))
		if d.seldom(d.wrong) {
			name = d.word("True", "False", "A", "B", "C", "D")
		}
		var fields []api.Type
		for range d.pick(4) {
			fields = append(fields, d.typ(params, d.pick(4)))
		}
		l = append(l, api.Constr{Name: name, Fields: fields, At: d.place()})
	}
	return l
}

func (d *declaring) all() []api.Data {
	d.cons, d.datas = 0, nil
	for i := range d.pick(6) {
		d.datas = append(d.datas, d.data(i))
	}
	for i := range d.datas {
		d.datas[i].Cons = d.constrs(d.datas[i].Params)
	}
	return d.datas
}

// P8.1

func TestManyFaults(t *testing.T) {
	count := map[api.Errno]int{}
	stages := map[int]int{}
	d := &declaring{chain: 1}
	for i := range 40000 {
		d.wrong = 10 + i%90
		l := d.all()
		want := faults(l)
		table, f := decl.New(l)
		if f != want.first() || (table == nil) != (len(want) > 0) {
			t.Fatalf("%v, not %v, of %v", f, want.first(), l)
		}
		count[f.Err]++
		if len(want) > 1 {
			stages[slices.MinFunc(want, func(a, b wrong) int { return slices.Compare(a.when, b.when) }).when[0]]++
		}
	}
	for _, err := range []api.Errno{api.OK, api.ErrTwice, api.ErrNone, api.ErrArity} {
		if count[err] < 1500 {
			t.Error(count)
		}
	}
	if stages[0] < 1500 || stages[1] < 1500 {
		t.Error(stages)
	}
}

// right is declarations with nothing wrong.
func (d *declaring) right() []api.Data {
	d.wrong = 1 << 15
	for {
		if l := d.all(); len(faults(l)) == 0 {
			return l
		}
	}
}

// told is what a table tells of what is declared.
func told(l []api.Data) []api.Con {
	all := []api.Con{wantFalse(), wantTrue()}
	for _, d := range l {
		for tag, c := range d.Cons {
			con := api.Con{Name: c.Name, Data: d.Name, Tag: tag, Params: len(d.Params)}
			for _, ty := range c.Fields {
				con.Fields = append(con.Fields, byNumber(d.Params, ty))
			}
			all = append(all, con)
		}
	}
	return all
}

func byNumber(params []string, ty api.Type) api.Type {
	if ty.Kind == api.KVar {
		return num(slices.Index(params, ty.Name))
	}
	var args []api.Type
	for _, a := range ty.Args {
		args = append(args, byNumber(params, a))
	}
	if ty.Kind == api.KFun {
		return fun(args...)
	}
	return tcon(ty.Name, args...)
}

// consOf are the constructors of a data type.
func consOf(all []api.Con, name string) []api.Con {
	var l []api.Con
	for _, c := range all {
		if c.Data == name {
			l = append(l, c)
		}
	}
	return l
}

// spine is a constructor's type, from its fields on.
func spine(fields []api.Type, end api.Type) api.Type {
	if len(fields) == 0 {
		return end
	}
	return fun(fields[0], spine(fields[1:], end))
}

// P8.2, P8.3

func TestManyTables(t *testing.T) {
	d := &declaring{chain: 2}
	for range 5000 {
		l := d.right()
		tab := table(t, l...)
		all := tab.All()
		same(t, all, told(l))
		for _, c := range all {
			got, ok := tab.Con(c.Name)
			same(t, got, c)
			same(t, ok, true)
			same(t, tab.Cons(c.Data)[c.Tag], c)
			end := tcon(c.Data)
			for n := range c.Params {
				end.Args = append(end.Args, num(n))
			}
			whole, ok := tab.Type(c.Name)
			same(t, whole, spine(c.Fields, end))
			same(t, ok, true)
		}
		for _, of := range append(l, api.Data{Name: "Int"}, api.Data{Name: "Bool"}) {
			n, ok := tab.Data(of.Name)
			same(t, n, len(of.Params))
			same(t, ok, true)
			same(t, tab.Cons(of.Name), consOf(all, of.Name))
		}
		if t.Failed() {
			t.Fatal(l)
		}
	}
}

// P8.4

func TestOneMoreBehind(t *testing.T) {
	d := &declaring{chain: 3}
	for range 3000 {
		l := d.right()
		more := data("More", "a", 1, constr("One", d.place(), tvar("a")), constr("Two", d.place(), tcon("More", tvar("a"))))
		if d.pick(2) == 0 {
			more.Cons[1].Fields = []api.Type{fun(tcon("More", tcon("Bool")), tvar("a"))}
		}
		before, behind := table(t, l...), table(t, append(slices.Clone(l), more)...)
		all := before.All()
		same(t, behind.All()[:len(all)], all)
		same(t, len(behind.All()), len(all)+2)
		for _, c := range all {
			got, _ := behind.Con(c.Name)
			same(t, got, c)
			same(t, behind.Cons(c.Data), before.Cons(c.Data))
			one, _ := before.Type(c.Name)
			other, _ := behind.Type(c.Name)
			same(t, other, one)
			n, _ := before.Data(c.Data)
			m, ok := behind.Data(c.Data)
			same(t, m, n)
			same(t, ok, true)
		}
	}
}

// A fault stays what it is with a declaration more behind, unless that one's names are there twice, or what was missing.
func TestFaultsWithOneMoreBehind(t *testing.T) {
	d := &declaring{chain: 4}
	for range 5000 {
		d.wrong = 20
		l := d.all()
		_, f := decl.New(l)
		if _, g := decl.New(append(slices.Clone(l), data("More", "", 1, constr("One", at(9, 9))))); g != f {
			t.Fatalf("%v, then %v, of %v", f, g, l)
		}
	}
}

// The same declarations make the same tables, however often and in between which others.
func TestAgain(t *testing.T) {
	d := &declaring{chain: 5}
	l, other := d.right(), d.right()
	one := table(t, l...)
	table(t, other...).All()
	if two := table(t, l...); !reflect.DeepEqual(one.All(), two.All()) {
		t.Error(l)
	}
}
