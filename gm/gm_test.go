package gm_test

import (
	"fmt"
	"math"
	"slices"
	"testing"

	"changeling/api"
	"changeling/code"
	"changeling/gm"
)

// P18.1

// notLoaded tells that supercombinators and constructors are refused.
func notLoaded(t *testing.T, what any, l []api.Super, cons []api.Con) {
	t.Helper()
	p, err := gm.Load(l, cons)
	same(t, what, err, api.ErrArg)
	same(t, what, p == nil, true)
}

// notBegun tells that a program refuses an expression, or what it is to begin with.
func notBegun(t *testing.T, what any, p *gm.Program, e api.Core, b api.Budget, want api.Errno) {
	t.Helper()
	m, err := p.Start(e, 0, b)
	same(t, what, err, want)
	same(t, what, m == nil, true)
	o, err := p.Run(e, 0, b)
	same(t, what, err, want)
	same(t, what, o, api.Out{})
}

func TestLoad(t *testing.T) {
	for _, text := range []string{
		"m = x", "m = #0", "m #0 = #1", "m #0 #0 = 1", "m #x = 1", "m = 1\nm = 2", "+ = 1", "m = (lam #0 : 1)", "m = (f fail)\nf #0 = 1",
		"m = (f (case 1 (_ : 2)))\nf #0 = 1", "m = (f (pick 1 (2 : 3)))\nf #0 = 1", "m = (let (#0 fail) 1)", "m = (prim ! 1 2)", "m = (case 1 (2 : 3))",
		"m = (case N (N : 1) (N : 2))", "m = (case N (C #0 : 1))", "m = (case N (N #0 : 1))", "m = (pick 1 (2 : 1) (2 : 2))", "m = (let (#0 1) (#0 2) #0)",
	} {
		notLoaded(t, text, supers(text), knownCons())
	}
	right := supers("m = (prim + 1 2)")
	loadedOf(t, right, knownCons())
	loadedOf(t, nil, knownCons())
	loadedOf(t, []api.Super{}, []api.Con{{Name: "False"}, {Name: "True"}})
	unnamed := slices.Clone(right)
	unnamed[0].Name = ""
	notLoaded(t, "no name", unnamed, knownCons())
	notLoaded(t, "a constructor that is not there", []api.Super{{Name: "m", Body: api.Core{Kind: api.CCon, Name: "D"}}}, knownCons())
	notLoaded(t, "one of other fields", []api.Super{{Name: "m", Body: api.Core{Kind: api.CCon, Name: "N", Arity: 1}}}, knownCons())
	notLoaded(t, "no kind", []api.Super{{Name: "m"}}, knownCons())
	notLoaded(t, "no constructors", right, nil)
	notLoaded(t, "nothing", nil, nil)
	notLoaded(t, "no True", right, knownCons()[2:])
	notLoaded(t, "no False", right, knownCons()[:3])
	cons := knownCons()
	cons[0].Name = ""
	notLoaded(t, "a constructor without a name", right, cons)
	cons[0].Name = "T"
	notLoaded(t, "two constructors of one name", right, cons)
	cons = knownCons()
	cons[1].Fields = cons[2].Fields
	notLoaded(t, "a True with fields", right, cons)
}

func TestStart(t *testing.T) {
	p := loaded(t, "m = (prim + 1 2)\nf #0 = #0")
	for _, text := range []string{"x", "#0", "(f #0)", "fail", "(lam #0 : #0)", "(f (lam #0 : #0))", "(case 1 (_ : 2))", "(f (case 1 (_ : 2)))", "(pick 1 (2 : 3))", "(f fail)", "(prim ! 1 2)", "(let (#0 fail) 1)", "(let (#0 1) #1)"} {
		notBegun(t, text, p, expr(text), wide, api.ErrArg)
	}
	notBegun(t, "nothing", p, api.Core{}, wide, api.ErrArg)
	notBegun(t, "no such constructor", p, api.Core{Kind: api.CCon, Name: "D"}, wide, api.ErrArg)
	notBegun(t, "other fields", p, api.Core{Kind: api.CCon, Name: "C"}, wide, api.ErrArg)
	notBegun(t, "another name", p, api.Core{Kind: api.CInt, Name: "m"}, wide, api.ErrArg)
	for text, want := range map[string]string{"m": "3 in 13", "(f m)": "3 in 22", "(let (#0 m) #0)": "3 in 18", "(prim + m 1)": "4 in 31", "N": "N in 11", "7": "7 in 5"} {
		same(t, text, outText(t, ran(t, p, expr(text), 0, wide)), want)
	}
}

func TestBudgets(t *testing.T) {
	p := loaded(t, "m = (prim + 1 2)")
	fit := api.Budget{Fuel: 13, Heap: 20, Stack: 4}
	for _, c := range []struct {
		turn func(b *api.Budget, n int)
		may  map[int]string // what becomes of it; ErrArg: empty
	}{
		{func(b *api.Budget, n int) { b.Fuel = n }, map[int]string{math.MinInt: "", -1: "", 0: "fuel in 0", 1: "fuel in 1", 12: "fuel in 12", 13: "3 in 13", 14: "3 in 13", 1<<40 - 1: "3 in 13", 1 << 40: "3 in 13", 1<<40 + 1: "", math.MaxInt: ""}},
		{func(b *api.Budget, n int) { b.Heap = n }, map[int]string{math.MinInt: "", -1: "", 0: "", 1: "heap in 0", 17: "heap in 0", 18: "heap in 4", 19: "heap in 5", 20: "3 in 13", 21: "3 in 13", 1<<24 - 1: "3 in 13", 1 << 24: "3 in 13", 1<<24 + 1: "", 1 << 32: "", math.MaxInt: ""}},
		{func(b *api.Budget, n int) { b.Stack = n }, map[int]string{math.MinInt: "", -1: "", 0: "", 1: "stack in 2", 2: "stack in 4", 3: "stack in 5", 4: "3 in 13", 5: "3 in 13", 1<<24 - 1: "3 in 13", 1 << 24: "3 in 13", 1<<24 + 1: "", 1 << 32: "", math.MaxInt: ""}},
		{func(b *api.Budget, n int) { b.Every = n }, map[int]string{math.MinInt: "", -1: "", 0: "3 in 13", 1: "3 in 13", 2: "3 in 13", 3: "3 in 13", 1 << 24: "3 in 13", math.MaxInt: "3 in 13"}},
	} {
		for n, want := range c.may {
			b := fit
			c.turn(&b, n)
			if want == "" {
				notBegun(t, b, p, expr("m"), b, api.ErrArg)
				continue
			}
			same(t, b, outText(t, ran(t, p, expr("m"), 0, b)), want)
		}
	}
	greatest := api.Budget{Fuel: api.MaxFuel, Heap: api.MaxCells, Stack: api.MaxStack, Every: math.MaxInt}
	same(t, "the greatest", outText(t, ran(t, p, expr("m"), 0, greatest)), "3 in 13")
	notBegun(t, "none", p, expr("m"), api.Budget{}, api.ErrArg)
}

// What is answered of what is not there.
func TestNothing(t *testing.T) {
	var p *gm.Program
	notBegun(t, "no program", p, expr("1"), wide, api.ErrNil)
	notBegun(t, "no program, no budget", p, api.Core{}, api.Budget{}, api.ErrNil)
	notBegun(t, "what Load did not give", &gm.Program{}, expr("1"), wide, api.ErrArg)
	notBegun(t, "what Load did not give", new(gm.Program), api.Core{}, api.Budget{}, api.ErrArg)
	for _, m := range []*gm.Machine{nil, {}} {
		for range 3 {
			same(t, "step", m.Step(), false)
			same(t, "out", m.Out(), api.Out{})
			same(t, "counts", []int{m.Steps(), m.Depth(), m.Live(), m.Frames()}, []int{0, 0, 0, 0})
		}
	}
}

// At first there are the globals' nodes, one cell each.
func TestAtFirst(t *testing.T) {
	const text = "m = (prim + 1 2)\nf #0 = #0"
	p := loaded(t, text)
	globals := len(code.Globals(supers(text), knownCons()))
	same(t, "globals", globals, 2+most)
	for heap := 1; heap < globals+3; heap++ {
		for _, every := range []int{0, 1, 2, 5, globals, globals + 1} {
			for _, fuel := range []int{0, 1, 9} {
				b := api.Budget{Fuel: fuel, Heap: heap, Stack: 1, Every: every}
				m := started(t, p, expr("1"), 0, b)
				same(t, b, []int{m.Steps(), m.Depth(), m.Live(), m.Frames()}, []int{0, 0, min(heap, globals), 0})
				first := api.Out{}
				if heap < globals {
					first = api.Out{Kind: api.OutHeap}
				}
				same(t, b, m.Out(), first)
				same(t, b, m.Step(), heap > globals && fuel > 0)
				switch {
				case heap < globals:
					same(t, b, m.Out(), api.Out{Kind: api.OutHeap})
				case fuel == 0:
					same(t, b, m.Out(), api.Out{Kind: api.OutFuel})
				case heap == globals:
					same(t, b, m.Out(), api.Out{Kind: api.OutHeap, Steps: 1})
				default:
					same(t, b, m.Out(), api.Out{})
					same(t, b, []int{m.Steps(), m.Depth(), m.Live(), m.Frames()}, []int{1, 1, globals + 1, 0})
				}
			}
		}
	}
	// Nothing more is needed for what takes no cells.
	same(t, "no more", outText(t, ran(t, p, expr("f"), 0, api.Budget{Fuel: 9, Heap: globals, Stack: 2})), "-> in 5")
}

// One by one, and all in one; what is over stays as it is.
func TestOver(t *testing.T) {
	p := loaded(t, "m = (C 1 (C (prim + 1 2) N))\nz = (prim / 1 0)\nl = l\nx = (case 1 (2 : 3) (_ : fail))\nf #0 = (prim + 1 (f #0))\ng = (C 1 g)")
	for _, c := range []struct {
		e    string
		b    api.Budget
		kind int
	}{
		{"m", wide, api.OutValue}, {"z", wide, api.OutZero}, {"l", wide, api.OutLoop}, {"x", wide, api.OutMatch}, {"g", wide, api.OutFuel},
		{"m", api.Budget{Fuel: 20, Heap: 99, Stack: 99}, api.OutFuel}, {"(f 1)", api.Budget{Fuel: 9999, Heap: 99, Stack: 999}, api.OutHeap}, {"(f 1)", api.Budget{Fuel: 9999, Heap: 999, Stack: 99}, api.OutStack},
	} {
		m := started(t, p, expr(c.e), 0, c.b)
		n := 0
		for m.Step() {
			n++
			same(t, c, m.Steps(), n)
			same(t, c, m.Out(), api.Out{})
		}
		o := m.Out()
		if c.kind != api.OutFuel {
			n++
		}
		same(t, c, []int{o.Kind, o.Steps, m.Steps()}, []int{c.kind, n, n})
		counts := []int{m.Depth(), m.Live(), m.Frames()}
		for range 3 {
			same(t, c, m.Step(), false)
			same(t, c, m.Out(), o)
			same(t, c, []int{m.Steps(), m.Depth(), m.Live(), m.Frames()}, append([]int{n}, counts...))
		}
		same(t, c, ran(t, p, expr(c.e), 0, c.b), o)
	}
}

// What is pushed where the stack and the frames come to Stack, of each instruction that pushes.
func TestStacks(t *testing.T) {
	t.Parallel()
	for _, c := range []struct {
		text, e string
		stack   int
		want    string
	}{
		{"m = 1", "m", 1, "1.0.0×2 stack in 2"},                                                                // IEval
		{"m = 1", "m", 2, "1.0.0 1.1.0×2 1.1.1 stack in 4"},                                                    // IInt: the cell is taken ahead
		{"m = 1", "m", 3, "1.0.0 1.1.0×2 2.1.1 1.1.1×4 1.0.1 0.0.1×2 1 in 11"},                                 // just enough
		{"m = m2\nm2 = m", "m", 2, "1.0.0 1.1.0×3 stack in 4"},                                                 // IGlob
		{"f #0 = #0", "(f 1)", 2, "1.0.1 2.0.1 1.0.2 1.1.2×2 stack in 5"},                                      // an NApp that unwinds
		{"f #0 = #0", "(f 1)", 3, "1.0.1 2.0.1 1.0.2 1.1.2 2.1.2×3 stack in 7"},                                // IPush
		{"f #0 = #0", "(f 1)", 4, "1.0.1 2.0.1 1.0.2 1.1.2 2.1.2×2 3.1.2 2.1.2 1.1.2×3 1.0.2 0.0.2×2 1 in 14"}, // just enough
		{"m = 1", "(C 1 2)", 2, "1.0.1 2.0.2×2 stack in 3"},
		{"m = 1", "(P 1 (C 2 3))", 3, "1.0.1 2.0.2 3.0.2 2.0.3 1.0.4 2.0.5 3.0.5 2.0.6 1.0.7 1.1.7 2.1.7×2 stack in 12"},
		{"m = (let (#0 1) (#1 2) (#2 3) 4)", "m", 2, "1.0.0 1.1.0×2 1.1.1 stack in 4"},                      // IAlloc: none
		{"m = (let (#0 1) (#1 2) (#2 3) 4)", "m", 4, "1.0.0 1.1.0×2 3.1.3 stack in 4"},                      // two of three
		{"m = (let (#0 1) (#1 2) (#2 3) 4)", "m", 5, "1.0.0 1.1.0×2 4.1.3 4.1.4 stack in 5"},                // all of them
		{"m = (prim + 1 N)", "m", 3, "1.0.0 1.1.0×2 2.1.1×2 stack in 5"},                                    // IGlob, with a frame
		{"m = (prim + 1 N)", "m", 4, "1.0.0 1.1.0×2 2.1.1 3.1.1×2 stack in 6"},                              // IEval, with a frame
		{"m = (prim + 1 N)", "m", 5, "1.0.0 1.1.0×2 2.1.1 3.1.1 3.2.1×2 3.2.2 stack in 8"},                  // IPack of nothing
		{"m = (prim + 1 N)", "m", 6, "1.0.0 1.1.0×2 2.1.1 3.1.1 3.2.1×2 4.2.2 3.2.2×4 3.1.2×2 match in 14"}, // just enough
	} {
		b := wide
		b.Stack = c.stack
		same(t, fmt.Sprint(c.text, " ", c.e, " ", c.stack), seen(t, c.text, c.e, 0, b), c.want)
	}
}

// Fields that are pushed: what they are of was made where there was more room.
func TestFieldStacks(t *testing.T) {
	t.Parallel()
	const ofCase = "t = (T 1 2 3)\nm = (case t (_ : (prim + 1 (prim + 1 (prim + 1 (prim + 1 (case t (T #0 #1 #2 : 7))))))))"
	const made = "1.0.0 1.1.0×2 2.1.0 2.2.0×2 3.2.1 4.2.2 5.2.3 6.2.3 5.2.4 4.2.5 3.2.6 2.2.6×4 3.2.6 4.2.6 5.2.6×2 3.2.7 2.2.7×4 2.1.7×2 1.1.7 2.1.8 3.1.9 4.1.10 5.1.11 6.1.11 6.2.11×3 6.1.11×2 "
	for stack, want := range map[int]string{
		8:  made + "7.1.11 stack in 40", // two of three
		9:  made + "8.1.11 8.1.12 stack in 41",
		10: made + "8.1.11 9.1.12 6.1.12×2 5.1.13 4.1.14 3.1.15 2.1.16 1.1.16×4 1.0.16 0.0.16×2 11 in 54",
	} {
		b := wide
		b.Stack = stack
		same(t, stack, seen(t, ofCase, "m", 0, b), want)
	}
	// What is told: behind each thing two fields wait.
	const told = "a = (T 1 2 3)\nb = (T a 4 5)\nc = (T b 6 7)\nd = (T c 8 9)\nm = (case a (_ : (case b (_ : (case c (_ : (case d (_ : d))))))))"
	ran := func(stack int) (api.Out, []int) {
		b := wide
		b.Stack = stack
		m := started(t, loaded(t, told), expr("m"), 0, b)
		for m.Step() {
		}
		return m.Out(), []int{m.Depth(), m.Frames()}
	}
	third, at := ran(8)
	same(t, "two of three", at, []int{8, 0})
	same(t, "two of three", third.Kind, api.OutStack)
	frame, at := ran(9)
	same(t, "all of them, but no frame", at, []int{9, 0})
	same(t, "all of them, but no frame", frame, api.Out{Kind: api.OutStack, Steps: third.Steps + 2})
	whole, at := ran(10)
	same(t, "all", at, []int{0, 0})
	same(t, "all", termText(whole.Term), "(T (T (T (T 1 2 3) 4 5) 6 7) 8 9)")
}

// A cell that is taken when it was collected just then; when none is free, and that frees some, or none.
func TestCells(t *testing.T) {
	t.Parallel()
	const product = "m = (prim * 6 7)"
	const sum = "m = (prim + (prim + 1 2) (f 3))\nf #0 = #0"
	const fields = "m = (prim + (prim + 1 2) (case (P 4 5) (P #0 #1 : #1)))"
	for _, c := range []struct {
		what, text  string
		heap, every int // heap: beside the globals
		want        string
	}{
		{"none", product, 0, 0, "1.0.0 1.1.0×3 heap in 4"},
		{"one", product, 1, 0, "1.0.0 1.1.0×2 2.1.1×2 heap in 5"},
		{"two: what IPrim asked for is gone", product, 2, 0, "1.0.0 1.1.0×2 2.1.1 3.1.2 2.1.1 1.1.1×4 1.0.1 0.0.1×2 42 in 13"},
		{"three", product, 3, 0, "1.0.0 1.1.0×2 2.1.1 3.1.2 2.1.3 1.1.3×4 1.0.3 0.0.3×2 42 in 13"},
		{"each time", product, 9, 1, "1.0.0 1.1.0×2 2.1.1 3.1.2 2.1.1 1.1.1×4 1.0.1 0.0.1×2 42 in 13"},
		// The globals' cells were taken, too: 18 of them, then two.
		{"behind each third one, the 18th among them", product, 9, 3, "1.0.0 1.1.0×2 2.1.1 3.1.2 2.1.3 1.1.3×4 1.0.3 0.0.3×2 42 in 13"},
		{"behind the 20th", product, 9, 20, "1.0.0 1.1.0×2 2.1.1 3.1.2 2.1.1 1.1.1×4 1.0.1 0.0.1×2 42 in 13"},
		{"behind the 10th and the 20th", product, 9, 10, "1.0.0 1.1.0×2 2.1.1 3.1.2 2.1.1 1.1.1×4 1.0.1 0.0.1×2 42 in 13"},
		{"behind the 21st, which is the last one", product, 9, 21, "1.0.0 1.1.0×2 2.1.1 3.1.2 2.1.3 1.1.3×4 1.0.3 0.0.3×2 42 in 13"},
		{"behind the 19th", product, 9, 19, "1.0.0 1.1.0×2 2.1.1 3.1.2 2.1.3 1.1.3×4 1.0.3 0.0.3×2 42 in 13"},
		{"two, and each time", product, 2, 1, "1.0.0 1.1.0×2 2.1.1 3.1.2 2.1.1 1.1.1×4 1.0.1 0.0.1×2 42 in 13"},
		{"one, and each time", product, 1, 1, "1.0.0 1.1.0×2 2.1.1×2 heap in 5"},
		// What IApply joins stands on the stack still.
		{"IApply, which frees none", sum, 2, 0, "1.0.0 1.1.0×2 2.1.1 3.1.2 2.1.1 3.1.2 4.1.2×2 heap in 9"},
		{"IInt, which frees two", sum, 3, 0, "1.0.0 1.1.0×2 2.1.1 3.1.2 2.1.3 3.1.2 4.1.2 3.1.3 3.2.3 4.2.3×2 5.2.3 4.2.3 3.2.3×3 3.1.3 2.1.1 1.1.1×4 1.0.1 0.0.1×2 6 in 26"},
		{"IApply, which frees two", sum, 4, 0, "1.0.0 1.1.0×2 2.1.1 3.1.2 2.1.3 3.1.4 4.1.4 3.1.3 3.2.3 4.2.3×2 5.2.3 4.2.3 3.2.3×3 3.1.3 2.1.4 1.1.4×4 1.0.4 0.0.4×2 6 in 26"},
		{"IApply, each time", sum, 9, 1, "1.0.0 1.1.0×2 2.1.1 3.1.2 2.1.1 3.1.2 4.1.2 3.1.3 3.2.3 4.2.3×2 5.2.3 4.2.3 3.2.3×3 3.1.3 2.1.1 1.1.1×4 1.0.1 0.0.1×2 6 in 26"},
		// So do the fields that IPack packs: what they were applied by is gone, but for the root.
		{"IPack, each time", fields, 9, 1, "1.0.0 1.1.0×2 2.1.1 3.1.2 2.1.1 3.1.2 4.1.3 5.1.3 4.1.4 3.1.5 3.2.5 4.2.5 5.2.5×2 4.2.5 3.2.5×4 3.1.5×2 4.1.5 5.1.5 5.2.5 5.1.5 3.1.5×2 2.1.1 1.1.1×4 1.0.1 0.0.1×2 8 in 36"},
	} {
		b := wide
		b.Heap, b.Every = len(supers(c.text))+most+c.heap, c.every
		same(t, c.what, seen(t, c.text, "m", 0, b), c.want)
	}
}

// What is handed in is not kept; what is answered is new each time.
func TestNewMemory(t *testing.T) {
	const text = "m #0 = (let (#1 (C #0 N)) (case #1 (C #2 #3 : (pick (T #2 #1 (prim < #0 1)) (1 : #1)))))"
	l, cons := supers(text), knownCons()
	p := loadedOf(t, l, cons)
	const want = "(T 5 (C 5 N) False)"
	e := expr("(m 5)")
	first := started(t, p, e, 0, wide)
	for i := range cons {
		cons[i].Name += "x"
		for j := range cons[i].Fields {
			cons[i].Fields[j] = api.Type{}
		}
		cons[i].Fields = nil
	}
	spoil(&l[0].Body)
	l[0].Name, l[0].Params[0] = "x", "#9"
	spoil(&e)
	for first.Step() {
	}
	same(t, "a machine that had begun", termText(first.Out().Term), want)
	same(t, "a machine that begins", termText(ran(t, p, expr("(m 5)"), 0, wide).Term), want)
	o := first.Out()
	o.Term.Args[1].Args[0].N = 77
	o.Term.Args[0] = api.Term{Con: "spoilt"}
	clear(o.Term.Args)
	same(t, "answered once more", termText(first.Out().Term), want)
	o = first.Out()
	o.Term.Args[1].Args = append(o.Term.Args[1].Args[:1], api.Term{Con: "more"})
	same(t, "answered once more", termText(first.Out().Term), want)
	// No two lists of one answer share any.
	_ = append(o.Term.Args[1].Args, api.Term{Con: "behind"})
	same(t, "the others", termText(o.Term), "(T 5 (C 5 more) False)")
}

// spoil turns all that is in an expression into something else.
func spoil(c *api.Core) {
	for i := range c.Args {
		spoil(&c.Args[i])
	}
	for i := range c.Alts {
		spoil(&c.Alts[i].Body)
		clear(c.Alts[i].Params)
		c.Alts[i] = api.CAlt{}
	}
	for i := range c.Binds {
		spoil(&c.Binds[i].Body)
		c.Binds[i] = api.CBind{}
	}
	for i := range c.Picks {
		spoil(&c.Picks[i].Body)
		c.Picks[i] = api.Choice{}
	}
	clear(c.Params)
	*c = api.Core{Kind: api.CFail}
}

// A program that is run twice, and machines of one program beside each other: none turns anything of another one.
func TestBeside(t *testing.T) {
	p := loaded(t, "ones = (C 1 ones)\nx = (prim + 1 2)\nm = (pick (T x x N) (1 : (P x (prim / x 0))) (2 : m) (3 : (case x (1 : 2) (_ : fail))) (4 : (P 3 ones)))")
	b := api.Budget{Fuel: 100, Heap: 60, Stack: 20}
	want := []string{"(T 3 3 N) in 54", "zero in 52", "loop in 9", "match in 18", "fuel in 100"}
	var machines []*gm.Machine
	for range 2 {
		for selector := range want {
			same(t, selector, outText(t, ran(t, p, expr("m"), selector, b)), want[selector])
			machines = append(machines, started(t, p, expr("m"), selector, b))
		}
	}
	for more := true; more; {
		more = false
		for i, m := range machines {
			for range 1 + i%3 {
				more = m.Step() || more
			}
		}
	}
	for i, m := range machines {
		same(t, i, outText(t, m.Out()), want[i%len(want)])
	}
	// A copy of one is that same one.
	m := started(t, p, expr("m"), 0, b)
	m.Step()
	other := *m
	for other.Step() {
		m.Step()
	}
	same(t, "a copy", m.Out(), other.Out())
	same(t, "a copy", outText(t, m.Out()), want[0])
	// And a copy of a program another one of the same.
	q := *p
	same(t, "a program's copy", outText(t, ran(t, &q, expr("m"), 0, b)), want[0])
}
