package parse_test

import (
	"reflect"
	"testing"

	"changeling/api"
	"changeling/parse"
)

// fill makes all of a value something, down to some depth, and lists of some lengths.
func fill(c *chain, v reflect.Value, depth int) {
	switch v.Kind() {
	case reflect.Int, reflect.Int64:
		v.SetInt(int64(1 + c.pick(9)))
	case reflect.String:
		v.SetString(c.word(alphabet))
	case reflect.Struct:
		for i := range v.NumField() {
			fill(c, v.Field(i), depth)
		}
	case reflect.Slice:
		if depth == 0 {
			return
		}
		n := c.pick(3)
		v.Set(reflect.MakeSlice(v.Type(), n, n+c.pick(2)))
		for i := range n {
			fill(c, v.Index(i), depth-1)
		}
	}
}

// change calls f with all that stands in a value, however deep.
func change(v reflect.Value, f func(reflect.Value)) {
	f(v)
	switch v.Kind() {
	case reflect.Struct:
		for i := range v.NumField() {
			change(v.Field(i), f)
		}
	case reflect.Slice:
		for i := range v.Len() {
			change(v.Index(i), f)
		}
	}
}

func zeroPlaces(v reflect.Value) {
	if v.Type() == reflect.TypeFor[api.Pos]() {
		v.SetZero()
	}
}

// plainLists makes lists without elements nil: they may be either.
func plainLists(v reflect.Value) {
	if v.Kind() == reflect.Slice && v.Len() == 0 {
		v.SetZero()
	}
}

func spoil(v reflect.Value) {
	switch v.Kind() {
	case reflect.Int, reflect.Int64:
		v.SetInt(-99)
	case reflect.String:
		v.SetString("spoilt")
	}
}

// strips asks whether f makes places zero, and nothing else, in new memory.
func strips[T any](t *testing.T, f func(T) T) {
	t.Helper()
	for seed := range 300 {
		made := func() *T {
			c := chain(seed)
			x := new(T)
			fill(&c, reflect.ValueOf(x).Elem(), 2+seed%5)
			return x
		}
		given, same, want := made(), made(), made()
		change(reflect.ValueOf(want).Elem(), zeroPlaces)
		change(reflect.ValueOf(want).Elem(), plainLists)
		got := f(*given)
		if !reflect.DeepEqual(given, same) {
			t.Fatalf("%v was changed to %v", *same, *given)
		}
		change(reflect.ValueOf(given).Elem(), spoil)
		change(reflect.ValueOf(&got).Elem(), plainLists)
		if !reflect.DeepEqual(got, *want) {
			t.Fatalf("%v: %v, not %v", *same, got, *want)
		}
		given = made()
		got = f(*given)
		change(reflect.ValueOf(&got).Elem(), spoil)
		if !reflect.DeepEqual(given, same) {
			t.Fatalf("what was made of %v shares memory with it", *same)
		}
	}
}

// P6.3

func TestStrip(t *testing.T) {
	strips(t, parse.Strip)
	strips(t, parse.Bare)
	if p := parse.Strip(api.Program{}); !empty(p) {
		t.Error(p)
	}
	if e := parse.Bare(api.Expr{}); !emptyExpr(e) {
		t.Error(e)
	}
	for _, src := range rightSources {
		p := read(t, src)
		want := read(t, src)
		change(reflect.ValueOf(&want).Elem(), zeroPlaces)
		if got := parse.Strip(p); !reflect.DeepEqual(got, want) {
			t.Errorf("Strip of %q: %v", src, got)
		}
	}
}

// A list may stand in an answer but once, and nothing that was handed in; nor is anything kept from call to call.

func TestAnswersAreNew(t *testing.T) {
	for _, src := range rightSources {
		p, same := read(t, src), read(t, src)
		lists := map[uintptr]bool{}
		change(reflect.ValueOf(&p).Elem(), func(v reflect.Value) {
			if v.Kind() == reflect.Slice && v.Len() > 0 {
				if lists[v.Pointer()] {
					t.Errorf("Program(%q): %v stands in it twice", src, v)
				}
				lists[v.Pointer()] = true
			}
		})
		change(reflect.ValueOf(&p).Elem(), spoil)
		if again := read(t, src); !reflect.DeepEqual(again, same) {
			t.Errorf("Program(%q), called again: %v, not %v", src, again, same)
		}
	}
	ways := []api.Fix{{Op: "!", Assoc: api.FixRight, Level: 5, At: api.Pos{Line: 7, Col: 7}}, {Op: "?"}}
	const src = "\\x -> a ! b ! case x of { C (D y) | z -> 1 }"
	e, same := readExpr(t, src, ways...), readExpr(t, src, ways...)
	change(reflect.ValueOf(&e).Elem(), spoil)
	if again := readExpr(t, src, ways...); !reflect.DeepEqual(again, same) {
		t.Errorf("Expr(%q), called again: %v, not %v", src, again, same)
	}
	if !reflect.DeepEqual(ways, []api.Fix{{Op: "!", Assoc: api.FixRight, Level: 5, At: api.Pos{Line: 7, Col: 7}}, {Op: "?"}}) {
		t.Error(ways)
	}
}

// deep is an expression with so many parts nested in one another.
func deep(n int, within func(api.Expr) api.Expr) api.Expr {
	e := api.Expr{Kind: api.EVar, Name: "x", At: api.Pos{Line: 1, Col: 1}}
	for range n {
		e = within(e)
	}
	return e
}

// P1

func TestDeepExpressions(t *testing.T) {
	x := api.Expr{Kind: api.EVar, Name: "x"}
	for _, within := range []func(api.Expr) api.Expr{
		func(e api.Expr) api.Expr { return api.Expr{Kind: api.EApp, Args: []api.Expr{e, x}} },
		func(e api.Expr) api.Expr { return api.Expr{Kind: api.EApp, Args: []api.Expr{x, e}} },
		func(e api.Expr) api.Expr {
			return api.Expr{Kind: api.ECase, Args: []api.Expr{x}, Alts: []api.Alt{{Rhs: []api.Rhs{{Body: e}}}}}
		},
		func(e api.Expr) api.Expr {
			return api.Expr{Kind: api.ELet, Args: []api.Expr{x}, Binds: []api.Bind{{Clauses: []api.Clause{{Rhs: []api.Rhs{{Guard: []api.Expr{e}}}}}}}}
		},
	} {
		if e := parse.Bare(deep(1<<16, within)); e.Kind == 0 {
			t.Error(e.Kind)
		}
	}
}
