package gm_test

import (
	"fmt"
	"slices"
	"strings"
	"testing"

	"changeling/api"
	"changeling/decl"
	"changeling/gm"
	"changeling/lift"
	"changeling/match"
	"changeling/parse"
)

// compiled is a program out of its source.
func compiled(t *testing.T, src string) (*gm.Program, []api.Def) {
	t.Helper()
	x, f := parse.Program(src)
	d, g := match.Compile(x)
	l, err := lift.Lift(d)
	table, err2 := decl.New(x.Datas)
	if f.Err != api.OK || g.Err != api.OK || err != api.OK || err2.Err != api.OK {
		t.Fatal(f, g, err, err2)
	}
	return loadedOf(t, l, table.All()), d
}

// Programs out of their sources.
func TestPrograms(t *testing.T) {
	t.Parallel()
	p, d := compiled(t, `data L a = N | C a (L a)
data Tree = Leaf | Node Tree Int Tree
map f N = N
map f (C x l) = C (f x) (map f l)
fold f z N = z
fold f z (C x l) = f x (fold f z l)
from n = C n (from (n + 1))
take 0 _ = N
take n (C x l) = C x (take (n - 1) l)
filter p N = N
filter p (C x l) | p x = C x (filter p l) | True = filter p l
sieve (C x l) = C x (sieve (filter (\y -> y % x /= 0) l))
primes = take 10 (sieve (from 2))
zip f (C x l) (C y m) = C (f x y) (zip f l m)
zip f _ _ = N
fibs = C 0 (C 1 (zip (+) fibs (rest fibs)))
rest (C _ l) = l
upto a b | a > b = N | True = C a (upto (a + 1) b)
sum = fold (+) 0
put x Leaf = Node Leaf x Leaf
put x (Node l y r) | x < y = Node (put x l) y r | True = Node l y (put x r)
flat Leaf m = m
flat (Node l x r) m = flat l (C x (flat r m))
sorted l = flat (fold put Leaf l) N
double 0 = 1
double n = let { y = double (n - 1) } in y + y
even n = let { e 0 = True; e m = o (m - 1); o 0 = False; o m = e (m - 1) } in e n
hanoi 0 a b c = N
hanoi n a b c = app (hanoi (n - 1) a c b) (C (a * 10 + b) (hanoi (n - 1) c b a))
app N m = m
app (C x l) m = C x (app l m)
safe q d N = True
safe q d (C p l) = if q == p then False else if q + d == p then False else if q - d == p then False else safe q (d + 1) l
queens n = let { go 0 = C N N; go k = fold app N (map (\l -> map (\q -> C q l) (filter (\q -> safe q 1 l) (upto 1 n))) (go (k - 1))) } in go n
fact n = if n < 2 then 1 else n * fact (n - 1)
loop x = loop x
down 0 = 5
down n = down (n - 1)
twice f x = f (f x)
gone = rest N
`)
	b := api.Budget{Fuel: 300000, Heap: 4000, Stack: 1000}
	for text, want := range map[string]string{
		"primes":         "(C 2 (C 3 (C 5 (C 7 (C 11 (C 13 (C 17 (C 19 (C 23 (C 29 N))))))))))",
		"(take 10 fibs)": "(C 0 (C 1 (C 1 (C 2 (C 3 (C 5 (C 8 (C 13 (C 21 (C 34 N))))))))))",
		"(sorted (C 3 (C 1 (C 2 (C 5 (C 4 N))))))": "(C 1 (C 2 (C 3 (C 4 (C 5 N)))))",
		"(sum (upto 1 100))":                       "5050",
		"(double 40)":                              "1099511627776",
		"(even 30)":                                "True",
		"(even 31)":                                "False",
		"(hanoi 3 1 2 3)":                          "(C 12 (C 13 (C 23 (C 12 (C 31 (C 32 (C 12 N)))))))",
		"(queens 4)":                               "(C (C 3 (C 1 (C 4 (C 2 N)))) (C (C 2 (C 4 (C 1 (C 3 N)))) N))",
		"(fact 20)":                                "2432902008176640000",
		"(fact 21)":                                "-4249290049419214848",
		"(loop 1)":                                 "fuel",
		"(down 5000)":                              "5",
		"(twice (twice (twice (+ 1))) 0)":          "8",
		"(sum (map (/ 12) (upto 1 4)))":            "25",
		"(sum (map (/ 12) (upto 0 4)))":            "zero",
		"gone":                                     "match",
		"(take 2 (C 1 gone))":                      "match",
		"(take 1 (C 1 gone))":                      "(C 1 N)",
		"(map (take 1) (take 2 (C fibs (C fibs gone))))": "(C (C 0 N) (C (C 0 N) N))",
		"(C loop (C (twice loop) N))":                    "(C -> (C -> N))",
	} {
		e := expr(text) // the constructors in it have as many fields here as there
		o := ran(t, p, e, 0, b)
		got, _, _ := strings.Cut(outText(t, o), " in ")
		same(t, text, got, want)
		if meant, _ := means(d, 0, true, 100000).outcome(e); want != "fuel" {
			same(t, text, meant, want)
		}
		for _, every := range []int{1, 3, 50} {
			b := b
			b.Every = every
			same(t, text, ran(t, p, e, 0, b), o)
		}
	}
}

// along tells how many constructors are in one another along the last fields, and what the last one of these is.
func along(x api.Term) (n int, last api.Term) {
	for len(x.Args) > 0 {
		n++
		x = x.Args[len(x.Args)-1]
	}
	return n, x
}

// P18.6, and what is long or wide.
func TestLong(t *testing.T) {
	t.Parallel()
	p := loaded(t, `ones = (C 1 ones)
loop #0 = (loop #0)
spin #0 = (case #0 (0 : #0) (_ : (spin (prim - #0 1))))
sum #0 = (case #0 (0 : 0) (_ : (prim + #0 (sum (prim - #0 1)))))
nums #0 = (case #0 (0 : N) (_ : (C #0 (nums (prim - #0 1)))))
left #0 #1 = (case #0 (0 : #1) (_ : (left (prim - #0 1) (P #1 #0))))
grows #0 = (prim + 1 (grows #0))
keeps #0 = (keeps (C 1 #0))
lasts #0 = (let (#1 (spin #0)) (P #1 (C #1 #1)))`)
	globals := 9 + most
	const deep = 1 << 15
	for _, c := range []struct {
		e    string
		b    api.Budget
		kind int
	}{
		{"ones", api.Budget{Fuel: 1 << 20, Heap: globals + 10, Stack: 9}, api.OutFuel},
		{"(loop 1)", api.Budget{Fuel: 1 << 20, Heap: globals + 9, Stack: 9}, api.OutFuel},
		{fmt.Sprint("(spin ", deep, ")"), api.Budget{Fuel: 1 << 22, Heap: globals + 15, Stack: 14}, api.OutValue},
		{fmt.Sprint("(sum ", deep, ")"), api.Budget{Fuel: 1 << 22, Heap: 1 << 20, Stack: 1 << 18}, api.OutValue},
		{fmt.Sprint("(nums ", deep, ")"), api.Budget{Fuel: 1 << 22, Heap: globals + 30, Stack: 20}, api.OutValue},
		{fmt.Sprint("(left ", deep, " 1)"), api.Budget{Fuel: 1 << 22, Heap: 1 << 18, Stack: 1 << 17}, api.OutValue},
		{"(grows 1)", api.Budget{Fuel: api.MaxFuel, Heap: 1 << 20, Stack: 1 << 16}, api.OutStack},
		{"(grows 1)", api.Budget{Fuel: api.MaxFuel, Heap: 1 << 16, Stack: 1 << 20}, api.OutHeap},
		{"(keeps N)", api.Budget{Fuel: api.MaxFuel, Heap: 1 << 16, Stack: 1 << 20}, api.OutHeap},
		{fmt.Sprint("(lasts ", deep/8, ")"), api.Budget{Fuel: 1 << 22, Heap: 1 << 18, Stack: 99}, api.OutValue},
	} {
		o := ran(t, p, expr(c.e), 0, c.b)
		same(t, c, o.Kind, c.kind)
		if o.Steps > c.b.Fuel || c.kind == api.OutFuel && o.Steps != c.b.Fuel {
			t.Error(c, o.Steps)
		}
	}
	b := api.Budget{Fuel: 1 << 22, Heap: 1 << 20, Stack: 1 << 18}
	same(t, "a sum", ran(t, p, expr(fmt.Sprint("(sum ", deep, ")")), 0, b).Term, api.Term{N: deep * (deep + 1) / 2})
	n, last := along(ran(t, p, expr(fmt.Sprint("(nums ", deep, ")")), 0, b).Term)
	same(t, "numbers", n, deep)
	same(t, "numbers", last, api.Term{Con: "N"})
	x := ran(t, p, expr(fmt.Sprint("(left ", deep, " 1)")), 0, b).Term
	for i := 1; i <= deep; i++ {
		if len(x.Args) != 2 || x.Con != "P" || x.Args[1].N != int64(i) {
			t.Fatal(i, x.Con)
		}
		x = x.Args[0]
	}
	same(t, "the innermost", x, api.Term{N: 1})
	same(t, "what is meant by three", termText(ran(t, p, expr("(lasts 99)"), 0, b).Term), "(P 0 (C 0 0))")
}

func TestWide(t *testing.T) {
	t.Parallel()
	const many = 1 << 12
	cons := append(knownCons(), api.Con{Name: "Wide", Data: "W", Fields: slices.Repeat([]api.Type{{}}, many)})
	of, all, lets := expr("(case #0)"), expr("(pick 1)"), expr("(let #0)")
	fields := api.CAlt{Kind: api.ACon, Name: "Wide", Body: expr("(prim - #4095 #1)")}
	made := api.Core{Kind: api.CCon, Name: "Wide", Arity: many}
	for i := range many {
		name := fmt.Sprint("#", i)
		of.Alts = append(of.Alts, api.CAlt{Kind: api.AInt, N: int64(3 * i), Body: api.Core{Kind: api.CInt, N: int64(i)}})
		all.Picks = append(all.Picks, api.Choice{Select: i - 9, Body: api.Core{Kind: api.CInt, N: int64(i)}})
		// Each name is the next one, and the last one a number.
		lets.Binds = append(lets.Binds, api.CBind{Name: name, Body: expr(fmt.Sprint("(C ", i, " #", i+1, ")"))})
		fields.Params = append(fields.Params, name)
		made = api.Core{Kind: api.CApp, Args: []api.Core{made, {Kind: api.CInt, N: int64(i)}}}
	}
	lets.Binds[many-1].Body = expr("7")
	of.Alts = append(of.Alts, api.CAlt{Kind: api.AAny, Body: expr("-1")})
	l := []api.Super{
		{Name: "of", Params: []string{"#0"}, Body: of}, {Name: "all", Body: all}, {Name: "lets", Body: lets},
		{Name: "fields", Params: []string{"#0"}, Body: api.Core{Kind: api.CCase, Args: []api.Core{expr("#0")}, Alts: []api.CAlt{fields}}},
		{Name: "made", Body: made},
	}
	p := loadedOf(t, l, cons)
	b := api.Budget{Fuel: 1 << 20, Heap: 1 << 16, Stack: 1 << 14}
	for e, want := range map[string]int64{"(of 12285)": many - 1, "(of 0)": 0, "(of 3)": 1, "(of 4)": -1, "(of 12288)": -1, "(fields made)": many - 2} {
		same(t, e, ran(t, p, expr(e), 0, b).Term, api.Term{N: want})
	}
	for selector, want := range map[int]int64{0: 9, -9: 0, many - 10: many - 1, many - 9: 1, -10: 1} {
		same(t, selector, ran(t, p, expr("all"), selector, b).Term, api.Term{N: want})
	}
	n, last := along(ran(t, p, expr("lets"), 0, b).Term)
	same(t, "names", n, many-1)
	same(t, "names", last, api.Term{N: 7})
	x := ran(t, p, expr("made"), 0, b).Term
	same(t, "fields", len(x.Args), many)
	for i, field := range x.Args {
		same(t, "a field", field, api.Term{N: int64(i)})
	}
	// There are many globals, too.
	text := ""
	for i := range many {
		text += fmt.Sprintf("f%d = (f%d)\n", i, (i+1)%many)
	}
	text = strings.Replace(text, "(f7)", "(C f8 f9)", 1)
	text = strings.Replace(text, "(f0)", "5", 1)
	same(t, "globals", termText(ran(t, loaded(t, text), expr("f3"), 0, b).Term), "(C 5 5)")
	o := ran(t, loaded(t, text), expr("f3"), 0, api.Budget{Fuel: 1 << 20, Heap: many + most - 1, Stack: 99})
	same(t, "globals", o, api.Out{Kind: api.OutHeap})
}
