package code_test

import (
	"fmt"
	"math"
	"reflect"
	"strings"
	"testing"

	"changeling/api"
	"changeling/code"
	"changeling/num"
)

func same(t *testing.T, what, got, want any) {
	t.Helper()
	if !reflect.DeepEqual(got, want) {
		t.Errorf("%v: %v, not %v", what, got, want)
	}
}

// Core expressions, in short forms.

func v(name string) api.Core { return api.Core{Kind: api.CVar, Name: name} }

func glob(name string) api.Core { return api.Core{Kind: api.CGlob, Name: name} }

func integer(n int64) api.Core { return api.Core{Kind: api.CInt, N: n} }

func app(f api.Core, l ...api.Core) api.Core {
	for _, a := range l {
		f = api.Core{Kind: api.CApp, Args: []api.Core{f, a}}
	}
	return f
}

func lam(body api.Core, params ...string) api.Core {
	return api.Core{Kind: api.CLam, Params: params, Args: []api.Core{body}}
}

func bind(name string, body api.Core) api.CBind { return api.CBind{Name: name, Body: body} }

func let(in api.Core, l ...api.CBind) api.Core {
	return api.Core{Kind: api.CLet, Binds: l, Args: []api.Core{in}}
}

func choice(of api.Core, l ...api.CAlt) api.Core {
	return api.Core{Kind: api.CCase, Args: []api.Core{of}, Alts: l}
}

func ofInt(n int64, body api.Core) api.CAlt { return api.CAlt{Kind: api.AInt, N: n, Body: body} }

func ofAny(body api.Core) api.CAlt { return api.CAlt{Kind: api.AAny, Body: body} }

func prim(op string, a, b api.Core) api.Core {
	return api.Core{Kind: api.CPrim, N: int64(num.Op(op)), Args: []api.Core{a, b}}
}

func fail() api.Core { return api.Core{Kind: api.CFail} }

func pick(arg api.Core, l ...api.Choice) api.Core {
	return api.Core{Kind: api.CPick, Args: []api.Core{arg}, Picks: l}
}

func on(selector int, body api.Core) api.Choice { return api.Choice{Select: selector, Body: body} }

func super(name string, body api.Core, params ...string) api.Super {
	return api.Super{Name: name, Params: params, Body: body}
}

// The constructors of most tests: their places are other numbers than their Tags.

var param = api.Type{Kind: api.KVar}

func knownCons() []api.Con {
	list := api.Type{Kind: api.KCon, Name: "L", Args: []api.Type{param}}
	return []api.Con{
		{Name: "N", Data: "L", Params: 1},
		{Name: "True", Data: "Bool", Tag: 1},
		{Name: "C", Data: "L", Tag: 1, Params: 1, Fields: []api.Type{param, list}},
		{Name: "False", Data: "Bool"},
		{Name: "T", Data: "L", Tag: 2, Params: 1, Fields: []api.Type{list, param, list}},
	}
}

func numberOf(name string) (api.Con, bool) {
	for _, c := range knownCons() {
		if c.Name == name {
			return c, true
		}
	}
	return api.Con{}, false
}

// con is a constructor of those, by its name.
func con(name string) api.Core {
	c, _ := numberOf(name)
	return api.Core{Kind: api.CCon, Name: name, N: int64(c.Tag), Arity: len(c.Fields)}
}

func ofCon(name string, body api.Core, params ...string) api.CAlt {
	c, _ := numberOf(name)
	return api.CAlt{Kind: api.ACon, Name: name, N: int64(c.Tag), Params: params, Body: body}
}

// beside are supercombinators, a g of two Params being the second one.
func beside(f api.Super) []api.Super {
	return []api.Super{f, super("g", integer(7), "#0", "#1")}
}

// Instructions, as texts.

func isNothing(i api.Instr) bool {
	return i.K == 0 && i.N == 0 && len(i.Jumps) == 0
}

// line is an instruction's text: behind what is named for it, what else is not zero.
func line(i api.Instr) string {
	var s string
	rest := i
	rest.Op = 0
	withK := func(name string) {
		s = fmt.Sprint(name, " ", i.K)
		rest.K = 0
	}
	withN := func(name string) {
		s = fmt.Sprint(name, " ", i.N)
		rest.N = 0
	}
	withJumps := func(name string) {
		s = name
		for _, j := range i.Jumps {
			s += fmt.Sprint(" ", j.Key, ">", j.To)
		}
		s += fmt.Sprint(" else ", i.K)
		rest.K, rest.Jumps = 0, nil
	}
	switch i.Op {
	case api.IPush:
		withK("push")
	case api.IGlob:
		withK("glob")
	case api.IInt:
		withN("int")
	case api.IApply:
		s = "apply"
	case api.IUpdate:
		withK("update")
	case api.IPop:
		withK("pop")
	case api.ISlide:
		withK("slide")
	case api.IAlloc:
		withK("alloc")
	case api.IEval:
		s = "eval"
	case api.IUnwind:
		s = "unwind"
	case api.IPack:
		s = fmt.Sprint("pack ", i.N, " of ", i.K)
		rest.K, rest.N = 0, 0
	case api.ISplit:
		withK("split")
	case api.ICase:
		withJumps("case")
	case api.IPick:
		withJumps("pick")
	case api.IJump:
		withK("jump")
	case api.IPrim:
		withN("prim")
	case api.IFail:
		s = "fail"
	case api.IForce:
		s = "force"
	case api.IAgain:
		withK("again")
	}
	if s == "" || !isNothing(rest) {
		s += fmt.Sprint("? ", i)
	}
	return s
}

func lines(l []api.Instr) string {
	var all []string
	for _, i := range l {
		all = append(all, line(i))
	}
	return strings.Join(all, "; ")
}

// codeText is a code's text.
func codeText(c api.Code) string {
	kind := ""
	if c.Con {
		kind = " con"
	}
	return fmt.Sprint(c.Name, "/", c.Arity, kind, ": ", lines(c.Ops))
}

func codesText(l []api.Code) string {
	var all []string
	for _, c := range l {
		all = append(all, codeText(c))
	}
	return strings.Join(all, "\n")
}

// compiled are the codes of what may be compiled, on all ways through which the depth is right.
func compiled(t *testing.T, l []api.Super, cons []api.Con) []api.Code {
	t.Helper()
	codes, err := code.Compile(l, cons)
	if err != api.OK || len(codes) != len(l)+len(cons)+11 {
		t.Fatal(err, len(codes), len(l), len(cons), l)
	}
	for _, c := range codes {
		walk(t, c, c.Arity)
	}
	return codes
}

// begun is what begins with an expression that may begin.
func begun(t *testing.T, e api.Core, l []api.Super, cons []api.Con) api.Code {
	t.Helper()
	c, err := code.Start(e, l, cons)
	if err != api.OK {
		t.Fatal(err, e)
	}
	same(t, "name", c.Name, "")
	same(t, "arity", c.Arity, 0)
	same(t, "con", c.Con, false)
	walk(t, c, -1)
	return c
}

// refused are supercombinators that may not be compiled, nor may anything begin with them.
func refused(t *testing.T, what any, l []api.Super, cons []api.Con) {
	t.Helper()
	codes, err := code.Compile(l, cons)
	same(t, what, err, api.ErrArg)
	same(t, what, len(codes), 0)
	notBegun(t, what, integer(1), l, cons)
}

func notBegun(t *testing.T, what any, e api.Core, l []api.Super, cons []api.Con) {
	t.Helper()
	c, err := code.Start(e, l, cons)
	same(t, what, err, api.ErrArg)
	same(t, what, c.Name == "" && c.Arity == 0 && !c.Con && len(c.Ops) == 0, true)
}

// ending is what ends a code at a depth.
func ending(d int) string {
	return fmt.Sprintf("update %d; pop %d; unwind", d, d)
}

// P17.1: supercombinators' codes

// x, y and z are the Params of a supercombinator of three: 2, 1 and 0 are their levels.
var x, y, z = v("#0"), v("#1"), v("#2")

// inTheEnd are Bodies, without Params and with three, and their codes.
var inTheEnd = []struct {
	params int
	body   api.Core
	want   string
}{
	// What is asked later, and then entered.
	{0, integer(5), "int 5; " + ending(0)},
	{3, integer(math.MinInt64), "int -9223372036854775808; " + ending(3)},
	{0, glob("f"), "glob 0; " + ending(0)},
	{3, glob("g"), "glob 1; " + ending(3)},
	{0, glob("+"), "glob 7; " + ending(0)},
	{0, glob(">="), "glob 17; " + ending(0)},
	{0, con("N"), "glob 2; " + ending(0)},
	{3, con("T"), "glob 6; " + ending(3)},
	{3, x, "push 0; " + ending(3)},
	{3, y, "push 1; " + ending(3)},
	{3, z, "push 2; " + ending(3)},
	{0, app(glob("f"), integer(1)), "int 1; glob 0; apply; " + ending(0)},
	{3, app(x, y), "push 1; push 1; apply; " + ending(3)},
	{3, app(x, y, z), "push 2; push 2; push 2; apply; apply; " + ending(3)},
	{3, app(x, app(y, z)), "push 2; push 2; apply; push 1; apply; " + ending(3)},
	{3, app(glob("g"), prim("-", x, y)), "push 1; push 1; glob 8; apply; apply; glob 1; apply; " + ending(3)},
	{3, app(prim("%", x, integer(3)), con("C")), "glob 4; int 3; push 2; glob 11; apply; apply; apply; " + ending(3)},
	{0, app(prim("==", prim("*", integer(1), integer(2)), integer(3)), integer(4)), "int 4; int 3; int 2; int 1; glob 9; apply; apply; glob 12; apply; apply; apply; " + ending(0)},
	{0, app(let(v("#0"), bind("#0", integer(9))), integer(1)), "int 1; alloc 1; int 9; update 0; push 0; slide 1; apply; " + ending(0)},
	{3, app(x, let(app(v("#7"), v("#8"), y), bind("#8", app(x, v("#7"))), bind("#7", app(v("#8"), z)), bind("#9", v("#9")))),
		"alloc 3; " +
			"push 1; push 4; apply; update 2; " + // #7 at the level 4, #0 at 2
			"push 5; push 3; apply; update 1; " + // #2 at 0, #8 at 3
			"push 0; update 0; " +
			"push 4; push 3; push 3; apply; apply; slide 3; " +
			"push 1; apply; " + ending(3)},
	// Primitives.
	{0, prim("+", integer(1), integer(2)), "int 1; int 2; prim 1; " + ending(0)},
	{3, prim(">=", x, integer(2)), "push 0; eval; int 2; prim 11; " + ending(3)},
	{3, prim("/", x, y), "push 0; eval; push 2; eval; prim 4; " + ending(3)},
	{3, prim("<", glob("f"), con("N")), "glob 0; eval; glob 2; eval; prim 8; " + ending(3)},
	{3, prim("<=", app(x, y), app(x, y)), "push 1; push 1; apply; eval; push 2; push 2; apply; eval; prim 9; " + ending(3)},
	{0, prim("-", prim("*", integer(1), integer(2)), prim("/", integer(3), integer(4))), "int 1; int 2; prim 3; int 3; int 4; prim 4; prim 2; " + ending(0)},
	{3, prim("-", z, prim("-", z, prim("-", z, z))), "push 2; eval; push 3; eval; push 4; eval; push 5; eval; prim 2; prim 2; prim 2; " + ending(3)},
	{0, prim(">", fail(), integer(2)), "fail; int 2; prim 10; " + ending(0)},
	{0, prim("/=", integer(1), fail()), "int 1; fail; prim 7; " + ending(0)},
	// None.
	{0, fail(), "fail"},
	{3, fail(), "fail"},
	// Bindings.
	{0, let(v("#0"), bind("#0", integer(9))), "alloc 1; int 9; update 0; push 0; " + ending(1)},
	{3, let(x, bind("#7", y)), "alloc 1; push 2; update 0; push 1; " + ending(4)},
	{3, let(prim("+", v("#4"), x), bind("#3", v("#4")), bind("#4", v("#3"))), "alloc 2; push 0; update 1; push 1; update 0; push 0; eval; push 3; eval; prim 1; " + ending(5)},
	{0, let(let(app(v("#0"), v("#1")), bind("#1", v("#0"))), bind("#0", con("N"))), "alloc 1; glob 2; update 0; alloc 1; push 1; update 0; push 0; push 2; apply; " + ending(2)},
	{0, let(fail(), bind("#0", integer(1))), "alloc 1; int 1; update 0; fail"},
	{0, let(let(v("#0"), bind("#0", v("#0"))), bind("#0", let(v("#0"), bind("#0", integer(1))))),
		"alloc 1; alloc 1; int 1; update 0; push 0; slide 1; update 0; alloc 1; push 0; update 0; push 0; " + ending(2)},
	// Cases.
	{0, choice(integer(3), ofAny(integer(4))), "int 3; case else 2; pop 1; int 4; " + ending(0)},
	{3, choice(x, ofInt(1, y), ofInt(math.MinInt64, z), ofInt(math.MaxInt64, fail()), ofAny(x)),
		"push 0; eval; case 1>3 -9223372036854775808>8 9223372036854775807>13 else 15; " +
			"pop 1; push 1; " + ending(3) + "; " +
			"pop 1; push 2; " + ending(3) + "; " +
			"pop 1; fail; " +
			"pop 1; push 0; " + ending(3)},
	{3, choice(x, ofCon("N", y), ofCon("C", app(v("#3"), v("#4"), x), "#3", "#4"), ofCon("T", v("#5"), "#4", "#5", "#6")),
		"push 0; eval; case 0>3 2>8 4>17 else -1; " +
			"split 0; push 1; " + ending(3) + "; " +
			"split 2; push 2; push 2; push 2; apply; apply; " + "update 5; pop 5; unwind; " + // #0 at 2, #4 at 3, #3 at 4; the depth is 5
			"split 3; push 1; " + ending(6)},
	{3, choice(app(y, x), ofCon("True", x), ofAny(prim("+", y, z))),
		"push 0; push 2; apply; eval; case 1>5 else 10; split 0; push 0; " + ending(3) + "; pop 1; push 1; eval; push 3; eval; prim 1; " + ending(3)},
	{0, choice(con("False"), ofCon("False", integer(1)), ofCon("True", integer(2))),
		"glob 5; eval; case 3>3 1>8 else -1; split 0; int 1; " + ending(0) + "; split 0; int 2; " + ending(0)},
	{0, choice(fail(), ofAny(integer(1))), "fail; case else 2; pop 1; int 1; " + ending(0)},
	// Picks.
	{0, pick(integer(3)), "pick else 1; int 3; " + ending(0)},
	{3, pick(x, on(7, y), on(-2, fail()), on(0, z), on(math.MaxInt, integer(1)), on(math.MinInt, glob("f"))),
		"pick 7>5 -2>9 0>10 9223372036854775807>14 -9223372036854775808>18 else 1; " +
			"push 0; " + ending(3) + "; push 1; " + ending(3) + "; fail; push 2; " + ending(3) + "; int 1; " + ending(3) + "; glob 0; " + ending(3)},
	// Choices within one another.
	{3, choice(choice(x, ofInt(0, y), ofAny(z)), ofInt(5, choice(y, ofAny(pick(z, on(1, x))))), ofAny(z)),
		"push 0; eval; case 0>3 else 7; pop 1; push 1; eval; jump 11; pop 1; push 2; eval; jump 11; " +
			"case 5>12 else 26; pop 1; push 1; eval; case else 16; pop 1; pick 1>22 else 18; push 2; " + ending(3) + "; push 0; " + ending(3) + "; pop 1; push 2; " + ending(3)},
	{0, pick(choice(glob("f"), ofCon("C", v("#1"), "#0", "#1"), ofAny(integer(2))), on(3, pick(integer(4), on(4, integer(5)))), on(4, let(v("#0"), bind("#0", integer(6))))),
		"pick 3>14 4>23 else 1; " +
			"glob 0; eval; case 2>4 else 9; split 2; push 1; " + ending(2) + "; pop 1; int 2; " + ending(0) + "; " +
			"pick 4>19 else 15; int 4; " + ending(0) + "; int 5; " + ending(0) + "; " +
			"alloc 1; int 6; update 0; push 0; " + ending(1)},
	{3, choice(x, ofCon("C", choice(v("#3"), ofCon("C", app(v("#0"), v("#3"), v("#4")), "#0", "#4"), ofAny(v("#0"))), "#3", "#0"), ofAny(x)),
		"push 0; eval; case 2>3 else 21; " +
			"split 2; push 0; eval; case 2>7 else 16; " + // #3 at 4, #0 at 3
			"split 2; push 1; push 3; push 2; apply; apply; update 7; pop 7; unwind; " + // #4 at 5, #3 at 4, #0 at 6; the depth is 7
			"pop 1; push 1; " + ending(5) + "; " +
			"pop 1; push 0; " + ending(3)},
}

func TestInTheEnd(t *testing.T) {
	for _, c := range inTheEnd {
		params := []string{"#0", "#1", "#2"}[:c.params]
		l := beside(super("f", c.body, params...))
		codes := compiled(t, l, knownCons())
		same(t, c.body, codeText(codes[0]), fmt.Sprint("f/", c.params, ": ", c.want))
		same(t, c.body, codeText(codes[1]), "g/2: int 7; "+ending(2))
	}
}

// askedNow are expressions, and what finds their values with three Params (at the levels 2, 1 and 0), at the depth 3 and from the place 0 on.
var askedNow = []struct {
	c    api.Core
	want string
}{
	{integer(-5), "int -5"},
	{x, "push 0; eval"},
	{z, "push 2; eval"},
	{glob("g"), "glob 1; eval"},
	{glob("%"), "glob 11; eval"},
	{con("N"), "glob 2; eval"},
	{con("C"), "glob 4; eval"},
	{app(x, z), "push 2; push 1; apply; eval"},
	{app(con("C"), x, con("N")), "glob 2; push 1; glob 4; apply; apply; eval"},
	{prim("*", x, y), "push 0; eval; push 2; eval; prim 3"},
	{prim("==", integer(1), prim("-", x, y)), "int 1; push 1; eval; push 3; eval; prim 2; prim 6"},
	{fail(), "fail"},
	{let(v("#3"), bind("#3", x)), "alloc 1; push 1; update 0; push 0; eval; slide 1"},
	{let(prim("+", v("#4"), x), bind("#3", app(y, v("#4"))), bind("#4", app(y, v("#3"))), bind("#5", integer(1))),
		"alloc 3; push 1; push 5; apply; update 2; push 2; push 5; apply; update 1; int 1; update 0; push 1; eval; push 4; eval; prim 1; slide 3"},
	{let(let(v("#3"), bind("#4", v("#3"))), bind("#3", v("#3"))), "alloc 1; push 0; update 0; alloc 1; push 1; update 0; push 1; eval; slide 1; slide 1"},
	{let(fail(), bind("#3", x)), "alloc 1; push 1; update 0; fail; slide 1"},
	{choice(x, ofAny(y)), "push 0; eval; case else 3; pop 1; push 1; eval; jump 7"},
	{choice(x, ofInt(4, y), ofInt(-1, fail()), ofAny(z)),
		"push 0; eval; case 4>3 -1>7 else 10; pop 1; push 1; eval; jump 14; pop 1; fail; jump 14; pop 1; push 2; eval; jump 14"},
	{choice(x, ofCon("True", y), ofCon("False", z)),
		"push 0; eval; case 1>3 3>8 else -1; split 0; push 1; eval; slide 0; jump 13; split 0; push 2; eval; slide 0; jump 13"},
	{choice(x, ofCon("T", app(v("#3"), v("#1")), "#3", "#1", "#4"), ofCon("N", y), ofAny(y)),
		"push 0; eval; case 4>3 0>10 else 15; " +
			"split 3; push 1; push 1; apply; eval; slide 3; jump 19; " + // #3 at 5, #1 at 4
			"split 0; push 1; eval; slide 0; jump 19; " +
			"pop 1; push 1; eval; jump 19"},
	{pick(x), "pick else 1; push 0; eval; jump 4"},
	{pick(integer(1), on(2, x), on(-1, fail())), "pick 2>3 -1>6 else 1; int 1; jump 8; push 0; eval; jump 8; fail; jump 8"},
	{pick(pick(x, on(1, y)), on(1, choice(z, ofAny(integer(1))))),
		"pick 1>9 else 1; pick 1>5 else 2; push 0; eval; jump 8; push 1; eval; jump 8; jump 16; push 2; eval; case else 12; pop 1; int 1; jump 15; jump 16"},
	{choice(pick(x, on(3, y)), ofInt(0, choice(x, ofCon("C", pick(v("#3"), on(0, prim("+", v("#4"), x))), "#4", "#3"))), ofAny(let(choice(v("#0"), ofAny(y)), bind("#0", z)))),
		"pick 3>4 else 1; push 0; eval; jump 7; push 1; eval; jump 7; " +
			"case 0>8 else 26; pop 1; push 0; eval; case 2>12 else -1; split 2; " + // #4 at 4, #3 at 3
			"pick 0>17 else 14; push 1; eval; jump 23; push 0; eval; push 3; eval; prim 1; jump 23; slide 2; jump 25; jump 39; " +
			"pop 1; alloc 1; push 3; update 0; push 0; eval; case else 33; pop 1; push 2; eval; jump 37; slide 1; jump 39"},
}

func TestNow(t *testing.T) {
	for _, c := range askedNow {
		want := fmt.Sprint("f/3: ", c.want, "; int 1; prim 1; ", ending(3))
		got := compiled(t, beside(super("f", prim("+", c.c, integer(1)), "#0", "#1", "#2")), knownCons())
		same(t, c.c, codeText(got[0]), want)
		// What a case looks at is asked now, too; and it is so in the end.
		want = fmt.Sprint("f/3: ", c.want, "; case else ", len(strings.Split(c.want, ";"))+1, "; pop 1; fail")
		got = compiled(t, beside(super("f", choice(c.c, ofAny(fail())), "#0", "#1", "#2")), knownCons())
		same(t, c.c, codeText(got[0]), want)
	}
}

func TestParams(t *testing.T) {
	names := []string{"#9", "#0", "#4", "#1", "#7"}
	for i, name := range names {
		for n := i + 1; n <= len(names); n++ {
			codes := compiled(t, beside(super("f", v(name), names[:n]...)), knownCons())
			same(t, name, codeText(codes[0]), fmt.Sprint("f/", n, ": push ", i, "; ", ending(n)))
			codes = compiled(t, beside(super("f", prim("+", v(name), v(name)), names[:n]...)), knownCons())
			same(t, name, codeText(codes[0]), fmt.Sprint("f/", n, ": push ", i, "; eval; push ", i+1, "; eval; prim 1; ", ending(n)))
		}
	}
}

// P17.1, P17.3: all globals, in order

func TestGlobals(t *testing.T) {
	operators := []string{"+", "-", "*", "/", "%", "==", "/=", "<", "<=", ">", ">="}
	for _, c := range []struct {
		l    []api.Super
		cons []api.Con
		want []string
	}{
		{nil, nil, nil},
		{[]api.Super{}, []api.Con{}, nil},
		{[]api.Super{{Name: "f"}}, nil, []string{"f"}},
		{nil, knownCons(), []string{"N", "True", "C", "False", "T"}},
		{beside(super("f", integer(1))), knownCons(), []string{"f", "g", "N", "True", "C", "False", "T"}},
		{[]api.Super{{Name: "z"}, {Name: "a#1"}, {Name: "a"}}, []api.Con{{Name: "B"}, {Name: "A"}}, []string{"z", "a#1", "a", "B", "A"}},
		// Names are told, whether these may be compiled or not.
		{[]api.Super{{Name: "f"}, {}, {Name: "f"}, {Name: "+"}}, []api.Con{{Name: "f"}, {}, {Name: "f"}, {Name: "<"}}, []string{"f", "", "f", "+", "f", "", "f", "<"}},
	} {
		same(t, c.want, code.Globals(c.l, c.cons), append(c.want, operators...))
	}
}

func operatorCodes() []string {
	var all []string
	for op, name := range []string{"+", "-", "*", "/", "%", "==", "/=", "<", "<=", ">", ">="} {
		all = append(all, fmt.Sprint(name, "/2: push 0; eval; push 2; eval; prim ", op+1, "; ", ending(2)))
	}
	return all
}

func TestAllCodes(t *testing.T) {
	of := func(l ...string) string { return strings.Join(append(l, operatorCodes()...), "\n") }
	l := []api.Super{super("g", x, "#1", "#0"), super("f#1", glob("f")), super("f", app(glob("g"), con("C"), glob("f#1")), "#3")}
	known := []string{
		"N/0 con: pack 0 of 0; " + ending(0),
		"True/0 con: pack 1 of 0; " + ending(0),
		"C/2 con: pack 2 of 2; " + ending(0),
		"False/0 con: pack 3 of 0; " + ending(0),
		"T/3 con: pack 4 of 3; " + ending(0),
	}
	want := of(append([]string{"g/2: push 1; " + ending(2), "f#1/0: glob 2; " + ending(0), "f/1: glob 1; glob 5; glob 0; apply; apply; " + ending(1)}, known...)...)
	same(t, "all", codesText(compiled(t, l, knownCons())), want)
	same(t, "no supercombinators", codesText(compiled(t, nil, knownCons())), of(known...))
	two := []api.Con{{Name: "False", Data: "Bool"}, {Name: "True", Data: "Bool", Tag: 1}}
	same(t, "two constructors", codesText(compiled(t, []api.Super{}, two)), of("False/0 con: pack 0 of 0; "+ending(0), "True/0 con: pack 1 of 0; "+ending(0)))
	// Constructors may have the names of other globals, and many Fields.
	fields := make([]api.Type, 9)
	for i := range fields {
		fields[i] = param
	}
	odd := []api.Con{{Name: "+", Data: "D", Fields: fields}, {Name: "True", Data: "Bool", Tag: 1}, {Name: "f", Data: "D", Tag: 1, Fields: fields[:1]}, {Name: "False", Data: "Bool"}}
	plus := api.Core{Kind: api.CCon, Name: "+", Arity: 9}
	ofF := api.CAlt{Kind: api.ACon, Name: "f", N: 1, Params: []string{"#0"}, Body: app(glob("f"), api.Core{Kind: api.CCon, Name: "f", N: 1, Arity: 1})}
	l = []api.Super{super("f", choice(app(glob("+"), plus), ofF)), super("True", integer(2))}
	want = of("f/0: glob 2; glob 6; apply; eval; case 2>5 else -1; split 1; glob 4; glob 0; apply; "+ending(1), "True/0: int 2; "+ending(0),
		"+/9 con: pack 0 of 9; "+ending(0), "True/0 con: pack 1 of 0; "+ending(0), "f/1 con: pack 2 of 1; "+ending(0), "False/0 con: pack 3 of 0; "+ending(0))
	same(t, "odd names", codesText(compiled(t, l, odd)), want)
}

// P17.1, P17.2: what may be compiled

func TestConstructors(t *testing.T) {
	no, yes, some := api.Con{Name: "False", Data: "Bool"}, api.Con{Name: "True", Data: "Bool", Tag: 1}, api.Con{Name: "A", Data: "D"}
	with := func(c api.Con, fields ...api.Type) api.Con {
		c.Fields = fields
		return c
	}
	for i, c := range []struct {
		cons []api.Con
		want bool
	}{
		{nil, false},
		{[]api.Con{}, false},
		{[]api.Con{no, yes}, true},
		{[]api.Con{yes, no}, true},
		{[]api.Con{some, yes, no}, true},
		{[]api.Con{yes, some, no}, true},
		{[]api.Con{no}, false},
		{[]api.Con{yes}, false},
		{[]api.Con{some}, false},
		{[]api.Con{some, no}, false},
		{[]api.Con{with(no, []api.Type{}...), yes}, true},
		{[]api.Con{with(no, param), yes}, false},
		{[]api.Con{no, with(yes, param)}, false},
		{[]api.Con{no, with(yes, param, param), some}, false},
		{[]api.Con{no, yes, no}, false},
		{[]api.Con{no, yes, yes}, false},
		{[]api.Con{no, yes, with(yes, param)}, false},
		{[]api.Con{with(yes, param), no, yes}, false},
		{[]api.Con{no, yes, some, some}, false},
		{[]api.Con{some, no, yes, with(some, param)}, false},
		{[]api.Con{no, yes, {}}, false},
		{[]api.Con{{Data: "D", Fields: []api.Type{param}}, no, yes}, false},
		{[]api.Con{no, yes, some, {Name: "B", Data: "D", Tag: 1}}, true},
		{[]api.Con{no, yes, {Name: "a"}, {Name: " "}, {Name: "#1"}, {Name: "==", Fields: []api.Type{param}}}, true},
	} {
		for _, l := range [][]api.Super{nil, {super("f", integer(1))}, beside(super("True", x, "#0"))} {
			if c.want {
				compiled(t, l, c.cons)
				begun(t, integer(1), l, c.cons)
			} else {
				refused(t, i, l, c.cons)
			}
		}
	}
}

func TestSupers(t *testing.T) {
	one := integer(1)
	for _, c := range []struct {
		l    []api.Super
		want bool
	}{
		{nil, true},
		{[]api.Super{super("f", one)}, true},
		{[]api.Super{super("f", one), super("g", one)}, true},
		{[]api.Super{super("f", one), super("f#1", one), super("#0", one), super("N", one)}, true},
		{[]api.Super{super("f", one), super("f", one)}, false},
		{[]api.Super{super("f", one), super("g", one), super("f", one)}, false},
		{[]api.Super{super("", one)}, false},
		{[]api.Super{super("+", one)}, false},
		{[]api.Super{super("f", one), super(">=", one)}, false},
		{[]api.Super{{}}, false},
		{[]api.Super{{Name: "f"}}, false},
		{[]api.Super{super("f", one, "#0", "#0")}, false},
		{[]api.Super{super("f", one, "x")}, false},
		{[]api.Super{super("f", one, "#0", "#-1")}, false},
		{[]api.Super{super("f", x)}, false},
		{[]api.Super{super("f", x, "#1")}, false},
		{[]api.Super{super("f", glob("g"))}, false},
		{[]api.Super{super("f", glob("g")), super("h", one)}, false},
		{[]api.Super{super("f", glob("g")), super("g", glob("f"))}, true},
		{[]api.Super{super("f", glob("N"))}, false},
		{[]api.Super{super("f", glob(""))}, false},
		{[]api.Super{super("f", lam(x, "#0"))}, false},
		{[]api.Super{super("f", app(lam(x, "#0"), one))}, false},
		{[]api.Super{super("f", app(one, fail()))}, false},
		{[]api.Super{super("f", app(choice(one, ofAny(one)), one))}, false},
		{[]api.Super{super("f", app(one, pick(one)))}, false},
		{[]api.Super{super("f", let(one, bind("#0", fail())))}, false},
		{[]api.Super{super("f", let(one, bind("#0", prim("+", one, choice(one, ofAny(one))))))}, false},
		{[]api.Super{super("f", let(one, bind("#0", one), bind("#0", one)))}, false},
		{[]api.Super{super("f", let(one))}, false},
		{[]api.Super{super("f", choice(one))}, false},
		{[]api.Super{super("f", choice(one, ofInt(1, one)))}, false},
		{[]api.Super{super("f", choice(one, ofInt(1, one), ofInt(1, one), ofAny(one)))}, false},
		{[]api.Super{super("f", choice(con("N"), ofCon("N", one), ofCon("N", one)))}, false},
		{[]api.Super{super("f", pick(one, on(1, one), on(1, one)))}, false},
		{[]api.Super{super("f", api.Core{Kind: api.CInt, N: 1, Name: "f"})}, false},
		{[]api.Super{super("f", api.Core{Kind: 12})}, false},
		{[]api.Super{super("f", api.Core{Kind: -1})}, false},
		{[]api.Super{super("f", api.Core{Kind: api.CApp, Args: []api.Core{one}})}, false},
		{[]api.Super{super("f", api.Core{Kind: api.CPrim, Args: []api.Core{one, one}})}, false},
		{[]api.Super{super("f", api.Core{Kind: api.CPrim, N: 12, Args: []api.Core{one, one}})}, false},
		// Names that might be taken for what something begins with.
		{[]api.Super{super("f", glob("#"))}, false},
		{[]api.Super{super("f", glob("##"))}, false},
		{[]api.Super{super("f", glob("f#"))}, false},
		{[]api.Super{super("fg", glob("fg#"))}, false},
		{[]api.Super{super("#", one), super("##", glob("#"))}, true},
	} {
		if c.want {
			compiled(t, c.l, knownCons())
			begun(t, integer(1), c.l, knownCons())
		} else {
			refused(t, c.l, c.l, knownCons())
			// Beside others just so.
			refused(t, c.l, append([]api.Super{super("a", integer(1))}, c.l...), knownCons())
			refused(t, c.l, append(append([]api.Super{}, c.l...), super("a", integer(1))), knownCons())
		}
	}
}

// within are Bodies in which an expression stands, in all ways.
func within(c api.Core) []api.Core {
	one := integer(1)
	return []api.Core{
		c, app(c, one), app(one, c), prim("+", c, one), prim("+", one, c), let(c, bind("#7", one)), let(one, bind("#8", one), bind("#7", c)),
		choice(c, ofAny(one)), choice(one, ofCon("C", c, "#8", "#9"), ofAny(one)), choice(one, ofInt(0, one), ofInt(1, c), ofAny(one)), choice(one, ofAny(c)),
		pick(c), pick(c, on(1, one)), pick(one, on(0, one), on(3, c)),
	}
}

func TestKnownConstructors(t *testing.T) {
	one := integer(1)
	right := []api.Core{con("N"), con("C"), con("T"), con("True"), con("False")}
	wrong := []api.Core{
		{Kind: api.CCon, Name: "D"}, {Kind: api.CCon, Name: "f"}, {Kind: api.CCon, Name: "+"}, {Kind: api.CCon, Name: "n"}, {Kind: api.CCon, Name: "C "}, {Kind: api.CCon},
		{Kind: api.CCon, Name: "N", Arity: 1}, {Kind: api.CCon, Name: "True", N: 1, Arity: 2}, {Kind: api.CCon, Name: "C", N: 1}, {Kind: api.CCon, Name: "C", N: 1, Arity: 1}, {Kind: api.CCon, Name: "C", N: 1, Arity: 3}, {Kind: api.CCon, Name: "T", N: 2, Arity: 2}, {Kind: api.CCon, Name: "T", N: 2, Arity: -3},
	}
	right = append(right,
		choice(one, ofCon("N", one)), choice(one, ofCon("C", one, "#1", "#2"), ofCon("T", one, "#1", "#2", "#3")), choice(one, ofCon("True", one), ofAny(one)))
	alts := []api.CAlt{
		{Kind: api.ACon, Name: "D", Body: one}, {Kind: api.ACon, Name: "f", Body: one}, {Kind: api.ACon, Name: "+", Body: one}, {Kind: api.ACon, Body: one},
		ofCon("N", one, "#1"), ofCon("False", one, "#1"), ofCon("C", one), ofCon("C", one, "#1"), ofCon("C", one, "#1", "#2", "#3"), ofCon("T", one, "#1", "#2"),
	}
	for _, a := range alts {
		wrong = append(wrong, choice(one, a), choice(one, a, ofAny(one)), choice(one, ofCon("True", one), a), choice(one, a, ofCon("True", one)))
	}
	for _, c := range right {
		for i, body := range within(c) {
			if c.Kind == api.CCase && (i == 1 || i == 2 || i == 6) {
				continue // there it is asked later
			}
			compiled(t, beside(super("f", body)), knownCons())
		}
	}
	for _, c := range wrong {
		for _, body := range within(c) {
			refused(t, body, beside(super("f", body)), knownCons())
			refused(t, body, append(beside(super("f", one)), super("h", body)), knownCons())
			notBegun(t, body, body, beside(super("f", one)), knownCons())
		}
	}
	// Where it is right, but asked later.
	for _, c := range right[5:] {
		refused(t, c, beside(super("f", app(one, c))), knownCons())
	}
}

// P17.2: what begins with an expression

func TestStart(t *testing.T) {
	one := integer(1)
	for _, c := range []struct {
		e    api.Core
		want string
	}{
		{integer(3), "int 3; eval; force; again 1"},
		{integer(math.MinInt64), "int -9223372036854775808; eval; force; again 1"},
		{glob("f"), "glob 0; eval; force; again 1"},
		{glob("g"), "glob 1; eval; force; again 1"},
		{glob("-"), "glob 8; eval; force; again 1"},
		{con("N"), "glob 2; eval; force; again 1"},
		{con("T"), "glob 6; eval; force; again 1"},
		{app(glob("f"), one), "int 1; glob 0; apply; eval; force; again 3"},
		{app(con("C"), one, app(con("C"), integer(2), con("N"))), "glob 2; int 2; glob 4; apply; apply; int 1; glob 4; apply; apply; eval; force; again 9"},
		{prim("-", one, integer(2)), "int 2; int 1; glob 8; apply; apply; eval; force; again 5"},
		{let(v("#0"), bind("#0", one)), "alloc 1; int 1; update 0; push 0; slide 1; eval; force; again 5"},
		{let(v("#1"), bind("#0", app(con("C"), one, v("#1"))), bind("#1", app(con("C"), integer(2), v("#0")))),
			"alloc 2; push 0; int 1; glob 4; apply; apply; update 1; push 1; int 2; glob 4; apply; apply; update 0; push 0; slide 2; eval; force; again 15"},
		{app(let(let(app(v("#1"), v("#0")), bind("#0", v("#1")), bind("#2", v("#0"))), bind("#1", glob("g"))), let(v("#5"), bind("#5", one))),
			"alloc 1; int 1; update 0; push 0; slide 1; " +
				"alloc 1; glob 1; update 0; alloc 2; push 2; update 1; push 1; update 0; push 1; push 3; apply; slide 2; slide 1; " +
				"apply; eval; force; again 19"},
	} {
		same(t, c.e, lines(begun(t, c.e, beside(super("f", one)), knownCons()).Ops), c.want)
		// The same is done where it is asked later in a Body, from the beginning on.
		body, _, _ := strings.Cut(c.want, "; eval; force")
		codes := compiled(t, beside(super("f", app(glob("f"), c.e))), knownCons())
		same(t, c.e, lines(codes[0].Ops), body+"; glob 0; apply; "+ending(0))
	}
	same(t, "no supercombinators", lines(begun(t, app(con("C"), glob("+")), nil, knownCons()).Ops), "glob 5; glob 2; apply; eval; force; again 3")
	for _, e := range []api.Core{
		{}, {Kind: 12}, {Kind: -3}, {Kind: api.CInt, N: 1, Arity: 1}, {Kind: api.CApp}, {Kind: api.CVar}, {Kind: api.CPrim, N: 1}, {Kind: api.CPrim, Args: []api.Core{one, one}},
		v("#0"), v("#1"), app(v("#0"), one), prim("+", one, v("#0")), let(v("#1"), bind("#0", one)), app(let(one, bind("#0", one)), v("#0")), let(one, bind("#0", v("#1"))),
		lam(one, "#0"), lam(x, "#0"), choice(one, ofAny(one)), choice(con("N"), ofCon("N", one), ofAny(one)), pick(one), pick(one, on(1, one)), fail(),
		app(one, lam(one, "#0")), app(fail(), one), prim("+", one, choice(one, ofAny(one))), prim("+", pick(one), one), let(fail(), bind("#0", one)), let(one, bind("#0", pick(one))), let(choice(one, ofAny(one)), bind("#0", one)),
		glob("h"), glob(""), glob("N"), glob("#"), glob("##"), glob("f#"), glob("g#"), glob("f#1"), glob("#0"), glob("="), app(one, glob("h")), let(one, bind("#0", glob("x"))), prim("+", glob("start"), one),
		let(one), let(one, bind("x", one)), let(one, bind("#0", one), bind("#0", one)), {Kind: api.CLet, Binds: []api.CBind{bind("#0", one)}},
	} {
		for _, l := range [][]api.Super{nil, {super("f", x, "#0")}, beside(super("f", x, "#0", "#1")), {super("f", one), super("#0#", one)}} {
			notBegun(t, e, e, l, knownCons())
		}
	}
}

// Rules: what is handed in stays as it is, and nothing of it is in what is answered.

func TestNothingShared(t *testing.T) {
	body := func() api.Core {
		return choice(pick(x, on(1, y)), ofCon("C", let(app(v("#2"), v("#3")), bind("#5", v("#2"))), "#2", "#3"), ofCon("N", pick(fail(), on(4, integer(1)))), ofAny(x))
	}
	l, cons := beside(super("f", body(), "#0", "#1")), knownCons()
	spare := append(make([]api.Super, 0, 9), l...)
	first, want := compiled(t, spare, cons), codesText(compiled(t, l, cons))
	start := begun(t, let(v("#0"), bind("#0", integer(1))), spare, cons)
	names := code.Globals(spare, cons)
	same(t, "behind what is handed in", spare[:9][2:], make([]api.Super, 7))
	for i := range first {
		for k := range first[i].Ops {
			for n := range first[i].Ops[k].Jumps {
				first[i].Ops[k].Jumps[n] = api.Jump{Key: 77, To: 77}
			}
			_ = append(first[i].Ops[k].Jumps, api.Jump{Key: 78})
			first[i].Ops[k] = api.Instr{Op: 99}
		}
		_ = append(first[i].Ops, api.Instr{Op: 98})
		same(t, "a code's own", len(first[i].Ops) > 0 && first[i].Ops[0].Op == 99, true)
	}
	clear(start.Ops)
	clear(names)
	same(t, "supercombinators", l, beside(super("f", body(), "#0", "#1")))
	same(t, "constructors", cons, knownCons())
	same(t, "again", codesText(compiled(t, l, cons)), want)
	same(t, "again", lines(begun(t, let(v("#0"), bind("#0", integer(1))), l, cons).Ops), "alloc 1; int 1; update 0; push 0; slide 1; eval; force; again 5")
	same(t, "again", len(code.Globals(l, cons)), 18)
	same(t, "again", code.Globals(l, cons)[0], "f")
}
