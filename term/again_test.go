package term_test

import (
	"fmt"
	"math"
	"math/big"
	"reflect"
	"regexp"
	"slices"
	"strconv"
	"strings"
	"testing"

	"changeling/api"
	"changeling/decl"
	"changeling/lex"
	"changeling/show"
	"changeling/term"
)

// The chapter's words once more: terms, what they are as texts, and data types as they are declared.

var isCon = regexp.MustCompile("^[A-Z][A-Za-z0-9_']{0,31}$")

func mayBe(t api.Term) bool {
	if t.Con == "" {
		return len(t.Args) == 0
	}
	for _, a := range t.Args {
		if !mayBe(a) {
			return false
		}
	}
	return isCon.MatchString(t.Con) && t.N == 0
}

// sizeOf is a size without a greatest one.
func sizeOf(t api.Term) *big.Int {
	s := big.NewInt(1)
	if t.Con == "" {
		return s.Add(s, new(big.Int).Abs(big.NewInt(t.N)))
	}
	for _, a := range t.Args {
		s.Add(s, sizeOf(a))
	}
	return s
}

func textOf(t api.Term) string {
	if t.Con == "" {
		if t.N < 0 {
			return "(" + strconv.FormatInt(t.N, 10) + ")"
		}
		return strconv.FormatInt(t.N, 10)
	}
	s := t.Con
	for _, a := range t.Args {
		inner := textOf(a)
		if len(a.Args) > 0 {
			inner = "(" + inner + ")"
		}
		s += " " + inner
	}
	return s
}

// declared are data types as they are declared, with Bool.
type declared []api.Data

func (l declared) data(name string) (api.Data, bool) {
	i := slices.IndexFunc(l, func(d api.Data) bool { return d.Name == name })
	if i < 0 {
		return api.Data{}, false
	}
	return l[i], true
}

// con is a constructor, its data type, and its Tag.
func (l declared) con(name string) (api.Constr, api.Data, int) {
	for _, d := range l {
		for tag, c := range d.Cons {
			if c.Name == name {
				return c, d, tag
			}
		}
	}
	return api.Constr{}, api.Data{}, -1
}

func parts(ty api.Type) int {
	all := 1
	for _, a := range ty.Args {
		all += parts(a)
	}
	return all
}

// with is a type with others in the params' places.
func with(ty api.Type, params []string, args []api.Type) api.Type {
	if ty.Kind == api.KVar {
		return args[slices.Index(params, ty.Name)]
	}
	r := api.Type{Kind: ty.Kind, Name: ty.Name}
	for _, a := range ty.Args {
		r.Args = append(r.Args, with(a, params, args))
	}
	return r
}

func (l declared) fits(ty api.Type, t api.Term) bool {
	if t.Con == "" {
		return ty.Kind == api.KVar || ty.Kind == api.KCon && ty.Name == "Int" && len(ty.Args) == 0
	}
	c, d, _ := l.con(t.Con)
	if c.Name == "" || len(t.Args) != len(c.Fields) || ty.Kind != api.KCon || ty.Name != d.Name || len(ty.Args) != len(d.Params) {
		return false
	}
	for i, f := range c.Fields {
		whole := with(f, d.Params, ty.Args)
		if parts(whole) > api.MaxType || !l.fits(whole, t.Args[i]) {
			return false
		}
	}
	return true
}

// core is a core expression's text, or none.
func (l declared) core(t api.Term) (string, bool) {
	if t.Con == "" {
		return fmt.Sprint(t.N), true
	}
	c, _, tag := l.con(t.Con)
	if c.Name == "" || len(t.Args) != len(c.Fields) {
		return "", false
	}
	s := fmt.Sprintf("%s/%d/%d", t.Con, tag, len(c.Fields))
	for _, a := range t.Args {
		inner, ok := l.core(a)
		if !ok {
			return "", false
		}
		s = "(" + s + " " + inner + ")"
	}
	return s, true
}

// written is the same of a core expression as it came; all of its fields must be its kind's.
func written(c api.Core) string {
	switch c.Kind {
	case api.CInt:
		if reflect.DeepEqual(c, cInt(c.N)) {
			return fmt.Sprint(c.N)
		}
	case api.CCon:
		if reflect.DeepEqual(c, cCon(c.Name, c.N, c.Arity)) {
			return fmt.Sprintf("%s/%d/%d", c.Name, c.N, c.Arity)
		}
	case api.CApp:
		if len(c.Args) == 2 && reflect.DeepEqual(c, api.Core{Kind: api.CApp, Args: c.Args}) {
			return "(" + written(c.Args[0]) + " " + written(c.Args[1]) + ")"
		}
	}
	return "?"
}

// chain makes choices, always the same.
type chain uint32

func (c *chain) pick(n int) int {
	*c = *c*1664525 + 1013904223
	return int(*c>>16) % n
}

func some[T any](c *chain, l ...T) T { return l[c.pick(len(l))] }

func (c *chain) number() int64 {
	return some(c, 0, 1, -1, 5, -7, int64(c.pick(1000)), 1<<29, -1<<29, 1<<30-1, 1<<30, math.MaxInt64, math.MinInt64)
}

// term is a term of constructors with any numbers of Args; a careless one may not be, now and then.
func (c *chain) term(depth int, careless bool) api.Term {
	if depth == 0 || c.pick(4) == 0 {
		if c.pick(2) == 0 {
			return n(c.number())
		}
		return api.Term{Con: some(c, "A", "B", "C", "True")}
	}
	t := api.Term{Con: some(c, "A", "B", "C", "D'", long)}
	for range c.pick(4) {
		t.Args = append(t.Args, c.term(depth-1, careless))
	}
	if careless && c.pick(5) == 0 {
		switch c.pick(3) {
		case 0:
			t.N = some(c, int64(1), -1, math.MinInt64)
		case 1:
			t.Con = some(c, "", "", "a", "->", "A B", tooLong)
		default:
			t.Con = some(c, "_", "A\n")
		}
	}
	return t
}

// P19.1, P19.4

func TestManyTerms(t *testing.T) {
	var c chain = 1
	most := big.NewInt(1 << 30)
	count := map[bool]int{}
	for i := range 20000 {
		x := c.term(i%5, i%2 == 0)
		right := mayBe(x)
		count[right]++
		same(t, x, term.Right(x), right)
		if !right {
			same(t, x, term.Size(x), 0)
			same(t, x, term.Text(x)+show.Expr(term.Expr(x)), "")
			same(t, x, term.Expr(x).Kind, 0)
			continue
		}
		size := sizeOf(x)
		if size.Cmp(most) > 0 {
			size = most
		}
		same(t, x, term.Size(x), int(size.Int64()))
		same(t, x, term.Text(x), textOf(x))
		e := term.Expr(x)
		same(t, x, show.Expr(e), textOf(x))
		for _, e := range []api.Expr{e, placed(e, i)} {
			back, ok := term.Of(e)
			if !ok || !term.Same(back, x) {
				t.Fatalf("%v: %v, %v", x, back, ok)
			}
		}
		if _, fault := lex.Tokens(textOf(x)); fault.Err == api.OK {
			read(t, textOf(x), x)
		}
		if t.Failed() {
			t.FailNow()
		}
	}
	if count[true] < 10000 || count[false] < 2000 {
		t.Error(count)
	}
}

// grown are all terms of few constructors up to a depth.
func grown(depth int) []api.Term {
	l := []api.Term{n(0), n(1), n(-1), c("A"), c("B")}
	if depth == 0 {
		return l
	}
	inner := grown(depth - 1)
	for _, a := range inner {
		l = append(l, c("A", a), c("B", a))
		for _, b := range inner {
			l = append(l, c("A", a, b))
		}
	}
	return l
}

// P19.5

func TestUnlikeTexts(t *testing.T) {
	l := grown(2)
	l = append(l, c("AA"), c("AB"), c("AA", n(1)), c("A1"), c("A", n(1), n(11)), c("A", n(11), n(1)), c("A", n(111)), n(111))
	for _, a := range l[:300] {
		l = append(l, c("B", n(0), n(1), a), c("B", n(0), c("B", n(1), a)), c("B", c("B", n(0), n(1)), a))
	}
	seen := map[string]int{}
	for i, x := range l {
		s := term.Text(x)
		if j, ok := seen[s]; ok {
			t.Fatalf("%q: %v, %v", s, l[j], x)
		}
		seen[s] = i
	}
	for i, x := range l[:400] {
		for j, y := range l[:400] {
			same(t, [2]api.Term{x, y}, term.Same(x, y), i == j)
		}
	}
}

// typ is a type of some names (params' among them), each with its number of Args; a careless one has others, now and then.
func (c *chain) typ(l declared, params []string, depth int, careless bool) api.Type {
	switch k := c.pick(10); {
	case k < 3 && len(params) > 0:
		return api.Type{Kind: api.KVar, Name: some(c, params...)}
	case k == 3:
		return api.Type{Kind: api.KFun, Args: []api.Type{c.typ(l, params, 0, false), c.typ(l, params, 0, false)}}
	case k < 6 || depth == 0:
		return con(some(c, "Int", "Int", "Bool"))
	}
	d := some(c, l...)
	ty := con(d.Name)
	args := len(d.Params)
	if careless && c.pick(9) == 0 {
		args = c.pick(3)
	}
	for range args {
		ty.Args = append(ty.Args, c.typ(l, params, depth-1, careless))
	}
	return ty
}

// datas are made data types, with few names of constructors.
func (c *chain) datas() declared {
	l := declared{{Name: "Bool", Cons: []api.Constr{{Name: "False"}, {Name: "True"}}}}
	for i := range 2 + c.pick(2) {
		l = append(l, api.Data{Name: fmt.Sprint("T", i), Params: []string{"a", "b"}[:c.pick(3)]})
	}
	next := 0
	for i := range l[1:] {
		for range 1 + c.pick(3) {
			k := api.Constr{Name: string(rune('A' + next))}
			next++
			for range c.pick(3) {
				k.Fields = append(k.Fields, c.typ(l, l[i+1].Params, 2, false))
			}
			l[i+1].Cons = append(l[i+1].Cons, k)
		}
	}
	return l
}

// fitting is a term that is likely to fit a type.
func (c *chain) fitting(l declared, ty api.Type, depth int) api.Term {
	d, ok := l.data(ty.Name)
	if !ok || c.pick(40) == 0 || len(d.Params) != len(ty.Args) {
		return some(c, n(int64(c.pick(5))-2), api.Term{Con: some(c, "A", "B", "C", "D", "E", "True")})
	}
	k := some(c, d.Cons...)
	for i := 0; depth <= 0 && i < 5; i++ {
		if other := some(c, d.Cons...); len(other.Fields) < len(k.Fields) {
			k = other
		}
	}
	t := api.Term{Con: k.Name}
	if depth < -4 {
		return t
	}
	for _, f := range k.Fields {
		t.Args = append(t.Args, c.fitting(l, with(f, d.Params, ty.Args), depth-1))
	}
	if c.pick(30) == 0 {
		t.Args = append(t.Args, n(0))
	}
	return t
}

// P19.3, P19.6

func TestManyFit(t *testing.T) {
	var c chain = 2
	count := map[[2]bool]int{}
	for range 3000 {
		l := c.datas()
		d, fault := decl.New(l[1:])
		same(t, l, fault, api.Fault{})
		for range 15 {
			ty := c.typ(l, []string{"x", "y"}, 3, true)
			x := c.fitting(l, ty, 3)
			if c.pick(5) == 0 {
				ty = c.typ(l, []string{"x"}, 2, true)
			}
			fit := l.fits(ty, x)
			text, ok := l.core(x)
			count[[2]bool{fit, ok}]++
			what := fmt.Sprintf("%v: %s of %s", l, textOf(x), show.Type(ty))
			same(t, what, term.Fits(d, ofNumbers(ty), x), fit)
			core, has := term.Core(d, x)
			same(t, what, has, ok)
			if ok {
				same(t, what, written(core), text)
			} else {
				same(t, what, core, api.Core{})
			}
			if fit && x.Con != "" {
				same(t, what, slices.ContainsFunc(d.Cons(ty.Name), func(k api.Con) bool { return k.Name == x.Con }), true)
			}
			if t.Failed() {
				t.FailNow()
			}
		}
	}
	for k, least := range map[[2]bool]int{{true, true}: 10000, {false, true}: 3000, {false, false}: 3000, {true, false}: 0} {
		if count[k] < least || least == 0 && count[k] > 0 {
			t.Error(k, count[k])
		}
	}
}

// ofNumbers is a type with numbers for its variables' names.
func ofNumbers(ty api.Type) api.Type {
	r := api.Type{Kind: ty.Kind, Name: ty.Name}
	if ty.Kind == api.KVar {
		r.Name, r.N = "", int(ty.Name[0])
	}
	for _, a := range ty.Args {
		r.Args = append(r.Args, ofNumbers(a))
	}
	return r
}

// Rule 3

// spoil makes all of a list that is somebody's another one.
func spoil(l []api.Term) {
	for i := range l {
		spoil(l[i].Args)
		l[i] = api.Term{Con: "spoilt", N: 9}
	}
}

func spoilExpr(l []api.Expr) {
	for i := range l {
		spoilExpr(l[i].Args)
		l[i] = api.Expr{Kind: 99}
	}
}

func spoilCore(l []api.Core) {
	for i := range l {
		spoilCore(l[i].Args)
		l[i] = api.Core{Kind: 99}
	}
}

func TestNothingIsShared(t *testing.T) {
	d := table(t, datas)
	part := c("C", n(1), c("N"))
	made := func() api.Term { return c("C", part, c("C", part, c("N"))) }
	x := made()
	ty := typ(t, "L (L Int)")
	same(t, "fits", term.Fits(d, ty, x), true)
	same(t, "the type", ty, typ(t, "L (L Int)"))
	e, again := term.Expr(x), term.Expr(x)
	spoilExpr(e.Args[1].Args)
	same(t, "apart", e.Args[0], again.Args[0])
	spoilExpr(e.Args)
	same(t, "the term", x, made())
	k, _ := term.Core(d, x)
	other, _ := term.Core(d, x)
	spoilCore(k.Args[1].Args)
	same(t, "apart", k.Args[0], other.Args[0])
	spoilCore(k.Args)
	same(t, "the term", x, made())
	back, _ := term.Of(again)
	spoil(back.Args)
	same(t, "the expression", again, term.Expr(made()))
	shared := eApp(eCon("C"), eInt(1))
	back, _ = term.Of(eApp(eCon("C"), shared, shared))
	spoil(back.Args[0].Args)
	same(t, "apart", back.Args[1], c("C", n(1)))
	same(t, "the expression", shared, eApp(eCon("C"), eInt(1)))
	same(t, "text", term.Text(x), strings.Join([]string{"C", "(C 1 N)", "(C (C 1 N) N)"}, " "))
}
