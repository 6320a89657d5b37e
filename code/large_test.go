package code_test

import (
	"fmt"
	"slices"
	"strings"
	"testing"

	"changeling/api"
	"changeling/code"
)

// P1: deep and wide ones

func TestDeep(t *testing.T) {
	t.Parallel()
	one := integer(1)
	const deep = 1 << 15
	for i, c := range []struct {
		within      func(api.Core) api.Core
		first, last string // what is put ahead of what stands within, and behind it, for each
	}{
		{func(c api.Core) api.Core { return app(c, x) }, "push", "apply"},
		{func(c api.Core) api.Core { return app(x, c) }, "", "push apply"},
		{func(c api.Core) api.Core { return prim("+", c, x) }, "", "push eval prim"},
		{func(c api.Core) api.Core { return prim("+", x, c) }, "push eval", "prim"},
		{func(c api.Core) api.Core { return let(c, bind("#1", x)) }, "alloc push update", ""},
		{func(c api.Core) api.Core { return let(x, bind("#2", x), bind("#1", c)) }, "", ""},
		{func(c api.Core) api.Core { return choice(c, ofAny(x)) }, "", "case pop push eval jump"},
		{func(c api.Core) api.Core { return choice(x, ofAny(c)) }, "push eval case pop", ""},
		{func(c api.Core) api.Core { return choice(x, ofCon("C", c, "#1", "#0")) }, "push eval case split", ""},
		{func(c api.Core) api.Core { return choice(x, ofInt(1, one), ofAny(c)) }, "push eval case pop int update pop unwind pop", ""},
		{func(c api.Core) api.Core { return pick(c) }, "pick", ""},
		{func(c api.Core) api.Core { return pick(one, on(1, x), on(3, c)) }, "pick int update pop unwind push update pop unwind", ""},
		{func(c api.Core) api.Core { return prim("-", choice(x, ofAny(c)), one) }, "push eval case pop", "jump int prim"},
		{func(c api.Core) api.Core { return prim("-", pick(one, on(1, c)), one) }, "pick int jump", "jump int prim"},
	} {
		e := x
		for range deep {
			e = c.within(e)
		}
		codes := compiled(t, beside(super("f", e, "#0")), knownCons())
		var ops []string
		for _, o := range codes[0].Ops {
			name, _, _ := strings.Cut(line(o), " ")
			ops = append(ops, name)
		}
		first, last := strings.Fields(c.first), strings.Fields(c.last)
		if n := deep * (len(first) + len(last)); n > 0 && len(ops) > n+5 || len(ops) < n+3 {
			t.Error(i, len(ops), n)
		}
		same(t, i, ops[:deep*len(first)], slices.Repeat(first, deep)[:deep*len(first)])
		// Behind the last one is what ends the code; a case's ways each do it.
		if behind := ops[len(ops)-3]; behind != "update" {
			t.Error(i, behind)
		}
		refused(t, i, beside(super("f", e)), knownCons())
	}
	e := con("N")
	for range deep {
		e = app(con("C"), let(prim("*", v("#0"), one), bind("#0", integer(2))), e)
	}
	if c := begun(t, e, nil, knownCons()); len(c.Ops) != 1+deep*12+3 {
		t.Error(len(c.Ops))
	}
	e = fail()
	for range deep {
		e = app(e, one)
	}
	notBegun(t, "failing", e, nil, knownCons())
}

func TestWide(t *testing.T) {
	t.Parallel()
	const wide = 1 << 15
	cons := knownCons()
	of, ofCons, all := choice(v("#0")), choice(v("#0")), pick(v("#0"))
	lets := let(v("#0"))
	f := super("f", v("#0"))
	fields := choice(v("#0"), api.CAlt{Kind: api.ACon, Name: "Wide", Body: v("#1")})
	for i := range wide {
		name := fmt.Sprint("#", i)
		cons = append(cons, api.Con{Name: fmt.Sprint("D", i), Data: "D", Tag: i, Fields: []api.Type{param}})
		of.Alts = append(of.Alts, ofInt(int64(i), v("#0")))
		ofCons.Alts = append(ofCons.Alts, api.CAlt{Kind: api.ACon, Name: fmt.Sprint("D", wide-1-i), N: int64(wide - 1 - i), Params: []string{"#9"}, Body: v("#9")})
		all.Picks = append(all.Picks, on(-i, v("#0")))
		lets.Binds = append(lets.Binds, bind(name, v(fmt.Sprint("#", wide-1-i))))
		f.Params = append(f.Params, name)
		fields.Alts[0].Params = append(fields.Alts[0].Params, fmt.Sprint("#", wide-i))
	}
	of.Alts = append(of.Alts, ofAny(integer(1)))
	cons = append(cons, api.Con{Name: "Wide", Data: "W", Fields: slices.Repeat([]api.Type{param}, wide)})
	codes := compiled(t, []api.Super{super("a", of, "#0"), super("b", ofCons, "#0"), super("c", all, "#0"), super("d", lets), f, super("e", fields, "#0")}, cons)
	same(t, "integers", len(codes[0].Ops), 3+5*(wide+1))
	same(t, "constructors", len(codes[1].Ops), 3+5*wide)
	same(t, "picks", len(codes[2].Ops), 1+4*(wide+1))
	same(t, "bindings", lines(codes[3].Ops[:3]), fmt.Sprint("alloc ", wide, "; push 0; update ", wide-1))
	same(t, "bindings", lines(codes[3].Ops[2*wide+1:]), fmt.Sprint("push ", wide-1, "; ", ending(wide)))
	same(t, "params", codeText(codes[4]), fmt.Sprint("f/", wide, ": push 0; ", ending(wide)))
	same(t, "fields", lines(codes[5].Ops[3:]), fmt.Sprint("split ", wide, "; push ", wide-1, "; ", ending(wide+1)))
	same(t, "wide", codeText(codes[6+len(cons)-1]), fmt.Sprint("Wide/", wide, " con: pack ", wide+5, " of ", wide, "; ", ending(0)))
	for i := range wide {
		same(t, "an integer", codes[0].Ops[2].Jumps[i], api.Jump{Key: int64(i), To: 3 + 5*i})
		same(t, "a constructor", codes[1].Ops[2].Jumps[i], api.Jump{Key: int64(5 + wide - 1 - i), To: 3 + 5*i})
		same(t, "a pick", codes[2].Ops[0].Jumps[i], api.Jump{Key: int64(-i), To: 5 + 4*i})
	}
	// Supercombinators side by side.
	var l []api.Super
	for i := range wide {
		l = append(l, super(fmt.Sprint("f", i), app(glob(fmt.Sprint("f", wide-1-i)), glob(">="), api.Core{Kind: api.CCon, Name: fmt.Sprint("D", i), N: int64(i), Arity: 1})))
	}
	codes = compiled(t, l, cons)
	same(t, "the last one", codeText(codes[wide-1]), fmt.Sprint("f", wide-1, "/0: glob ", 2*wide+4, "; glob ", 2*wide+6+10, "; glob 0; apply; apply; ", ending(0)))
	same(t, "names", len(code.Globals(l, cons)), 2*wide+6+11)
	l[0].Name = l[wide-1].Name
	refused(t, "two of one name", l, cons)
	l[0].Name = "f0"
	cons[7].Name = cons[9].Name
	refused(t, "two constructors of one name", l, cons)
}
