package gm_test

import (
	"fmt"
	"strings"
	"testing"

	"changeling/api"
)

// Each step by hand: how long the stack is, how many frames there are, and how many cells have nodes beside the globals', after each.

// seen is what is to be seen of a machine at each step, and what it comes to; ×n: it is so for n steps.
func seen(t *testing.T, text, e string, selector int, b api.Budget) string {
	t.Helper()
	l := supers(text)
	m := started(t, loadedOf(t, l, knownCons()), expr(e), selector, b)
	var rows []string
	for going := true; going; {
		same(t, "no outcome yet", m.Out(), api.Out{})
		same(t, "steps", m.Steps(), len(rows))
		if going = m.Step(); m.Steps() > len(rows) {
			rows = append(rows, fmt.Sprint(m.Depth(), ".", m.Frames(), ".", m.Live()-len(l)-most))
		}
	}
	if m.Step() || m.Step() {
		t.Error("steps of what is over")
	}
	return folded(rows) + " " + outText(t, m.Out())
}

func folded(rows []string) string {
	var l []string
	for i, n := 0, 0; i < len(rows); i += n {
		for n = 1; i+n < len(rows) && rows[i+n] == rows[i]; n++ {
		}
		if n > 1 {
			l = append(l, fmt.Sprint(rows[i], "×", n))
		} else {
			l = append(l, rows[i])
		}
	}
	return strings.Join(l, " ")
}

func TestSteps(t *testing.T) {
	t.Parallel()
	for _, c := range []struct{ what, text, e, want string }{
		{"a product: IInt, IInt, IPrim, IUpdate 0, IPop 0, IUnwind, an NInd, an NInt, IForce, IAgain",
			"m = (prim * 6 7)", "m", "1.0.0 1.1.0×2 2.1.1 3.1.2 2.1.3 1.1.3×4 1.0.3 0.0.3×2 42 in 13"},
		{"a relation", "m = (prim < 6 7)", "m", "1.0.0 1.1.0×2 2.1.1 3.1.2 2.1.3 1.1.3×4 1.0.3 0.0.3×2 True in 13"},
		{"by 0: nothing goes", "m = (prim / 1 0)", "m", "1.0.0 1.1.0×2 2.1.1 3.1.2×2 zero in 6"},
		{"an operator of what is no number: nothing goes", "m = (prim + 1 N)", "m",
			"1.0.0 1.1.0×2 2.1.1 3.1.1 3.2.1×2 4.2.2 3.2.2×4 3.1.2×2 match in 14"},
		{"what asks for itself: IUpdate of the root by itself, an NHole", "m = m", "m", "1.0.0 1.1.0×2 2.1.0 1.1.0×4 loop in 8"},
		{"a name that is itself: IAlloc, IUpdate of a hole by itself", "m = (let (#0 #0) #0)", "m",
			"1.0.0 1.1.0×2 2.1.1 3.1.1 2.1.1 3.1.1 2.1.1 1.1.1×4 loop in 12"},
		{"two names that are one another: none is an NInd to itself", "m = (let (#0 #1) (#1 #0) #0)", "m",
			"1.0.0 1.1.0×2 3.1.2 4.1.2 3.1.2 4.1.2 3.1.2 4.1.2 3.1.2 1.1.2×4 loop in 14"},
		{"IFail: nothing goes", "m = (case 3 (1 : 2) (_ : fail))", "m", "1.0.0 1.1.0×2 2.1.1×2 1.1.1×2 match in 7"},
		{"two arguments of two: NApps, a global is entered", "f #0 #1 = #0", "(f 5 6)",
			"1.0.1 2.0.2 3.0.2 2.0.3 1.0.4 1.1.4 2.1.4 3.1.4×2 4.1.4 3.1.4 1.1.4×3 1.0.4 0.0.4×2 5 in 17"},
		{"the second one", "f #0 #1 = #1", "(f 5 6)",
			"1.0.1 2.0.2 3.0.2 2.0.3 1.0.4 1.1.4 2.1.4 3.1.4×2 4.1.4 3.1.4 1.1.4×3 1.0.4 0.0.4×2 6 in 17"},
		{"one of two", "f #0 #1 = #0", "(f 5)", "1.0.1 2.0.1 1.0.2 1.1.2 2.1.2 1.0.2 0.0.2×2 -> in 8"},
		{"none of two", "f #0 #1 = #0", "f", "1.0.0 1.1.0 1.0.0 0.0.0×2 -> in 5"},
		{"three of one: what it comes to takes two", "f #0 = g\ng #0 #1 = #1", "(f 1 2 3)",
			"1.0.1 2.0.2 3.0.3 4.0.3 3.0.4 2.0.5 1.0.6 1.1.6 2.1.6 3.1.6 4.1.6×2 5.1.6 4.1.6 3.1.6×4 4.1.6 3.1.6 1.1.6×3 1.0.6 0.0.6×2 3 in 26"},
		{"an operator as a function: IPush, IEval", "m = 1", "(+ 1 2)",
			"1.0.1 2.0.2 3.0.2 2.0.3 1.0.4 1.1.4 2.1.4 3.1.4×2 4.1.4 4.2.4 4.1.4 5.1.4 5.2.4 5.1.4 4.1.5 3.1.5 1.1.5×3 1.0.5 0.0.5×2 3 in 23"},
		{"a number that is applied: it is back with that", "m = 1", "(3 4)", "1.0.1 2.0.2 1.0.3 1.1.3 2.1.3 1.0.3 0.0.3×2 3 in 8"},
		{"a constructor with a field too many", "m = 1", "(N 4)",
			"1.0.1 2.0.1 1.0.2 1.1.2 2.1.2×2 3.1.3 2.1.3×4 1.0.3 0.0.3×2 N in 14"},
		{"a constructor: IPack, its fields are told next", "m = 1", "(C 7 N)",
			"1.0.0 2.0.1 3.0.1 2.0.2 1.0.3 1.1.3 2.1.3 3.1.3×2 2.1.4 1.1.4×4 1.0.4 2.0.4×2 2.1.4 2.0.4 1.0.4×2 1.1.4×2 2.1.5 1.1.5×4 1.0.5 0.0.5×2 (C 7 N) in 31"},
		{"a constructor with a field too few", "m = 1", "(C 7)", "1.0.1 2.0.1 1.0.2 1.1.2 2.1.2 1.0.2 0.0.2×2 -> in 8"},
		{"names: IAlloc 2, IUpdate 1, IUpdate 0", "m = (let (#0 1) (#1 #0) (prim + #0 #1))", "m",
			"1.0.0 1.1.0×2 3.1.2 4.1.3 3.1.3 4.1.3 3.1.3 4.1.3 4.2.3×2 4.1.3 5.1.3 5.2.3×2 5.1.3 4.1.4 3.1.4 1.1.4×3 1.0.4 0.0.4×2 2 in 24"},
		{"names of what is asked later: ISlide 2", "m = 1", "(let (#0 1) (#1 #0) #1)",
			"2.0.2 3.0.3 2.0.3 3.0.3 2.0.3 3.0.3 1.0.3 1.1.3×2 1.0.3 0.0.3×2 1 in 12"},
		{"an NInd of an NInd", "m = (let (#0 (f 1)) (prim + #0 #0))\nf #0 = #0", "m",
			"1.0.0 1.1.0×2 2.1.1 3.1.2 4.1.2 3.1.3 2.1.3 3.1.3 3.2.3×2 4.2.3×2 5.2.3 4.2.3 3.2.3×3 3.1.3 4.1.3 4.2.3×3 4.1.3 3.1.4 2.1.4 1.1.4×3 1.0.4 0.0.4×2 2 in 32"},
		{"IUpdate by an NInd of an NInd: it leads to what that means", "m = (let (#0 (f 1)) (case #0 (_ : (let (#1 #0) (prim + #1 #1)))))\nf #0 = #0", "m",
			"1.0.0 1.1.0×2 2.1.1 3.1.2 4.1.2 3.1.3 2.1.3 3.1.3 3.2.3×2 4.2.3×2 5.2.3 4.2.3 3.2.3×3 3.1.3×2 2.1.3 3.1.4 4.1.4 3.1.4 4.1.4 4.2.4×2 4.1.4 5.1.4 5.2.4×2 5.1.4 4.1.5 3.1.5 1.1.5×3 1.0.5 0.0.5×2 2 in 40"},
		{"a case of a constructor with fields: ICase, ISplit 2", "m = (case (C 1 2) (C #0 #1 : (prim - #0 #1)) (_ : 0))", "m",
			"1.0.0 1.1.0×2 2.1.1 3.1.2 4.1.2 3.1.3 2.1.4 2.2.4 3.2.4 4.2.4×2 3.2.5 2.2.5×4 2.1.5×2 3.1.5 4.1.5 4.2.5 4.1.5 5.1.5 5.2.5 5.1.5 4.1.6 3.1.6 1.1.6×3 1.0.6 0.0.6×2 -1 in 34"},
		{"a case of one without, in a sum: ISplit 0, ISlide 0, IJump", "m = (prim + 1 (case N (N : 2) (_ : 3)))", "m",
			"1.0.0 1.1.0×2 2.1.1 3.1.1 3.2.1×2 4.2.2 3.2.2×4 3.1.2×2 2.1.2 3.1.3×3 2.1.4 1.1.4×4 1.0.4 0.0.4×2 3 in 26"},
		{"a case of one with fields, in a sum: ISlide 2", "m = (prim + 1 (case (P 5 6) (P #0 #1 : 2)))", "m",
			"1.0.0 1.1.0×2 2.1.1 3.1.2 4.1.3 5.1.3 4.1.4 3.1.5 3.2.5 4.2.5 5.2.5×2 4.2.6 3.2.6×4 3.1.6×2 4.1.6 5.1.7 3.1.7×2 2.1.8 1.1.8×4 1.0.8 0.0.8×2 3 in 32"},
		{"what is not needed is not asked for", "f #0 = 5", "(f (prim / 1 0))",
			"1.0.1 2.0.2 3.0.2 2.0.3 1.0.4 2.0.4 1.0.5 1.1.5 2.1.5×2 3.1.6 2.1.6 1.1.6×3 1.0.6 0.0.6×2 5 in 18"},
	} {
		same(t, c.what, seen(t, c.text, c.e, 0, wide), c.want)
	}
}

func TestPicks(t *testing.T) {
	t.Parallel()
	const text, inner = "m = (pick 1 (5 : 2) (7 : fail) (-3 : 4))", "m = (prim + 10 (pick 1 (5 : 2) (7 : fail) (-3 : 4)))"
	for selector, want := range map[int][2]string{
		0: {"1 in 12", "11 in 15"}, 1: {"1 in 12", "11 in 15"}, 6: {"1 in 12", "11 in 15"}, -5: {"1 in 12", "11 in 15"}, 1 << 62: {"1 in 12", "11 in 15"}, -1 << 63: {"1 in 12", "11 in 15"},
		5: {"2 in 12", "12 in 15"}, -3: {"4 in 12", "14 in 15"}, 7: {"match in 5", "match in 6"},
	} {
		same(t, selector, told(t, text, "m", selector, wide), want[0])
		same(t, selector, told(t, inner, "m", selector, wide), want[1])
	}
	same(t, "IPick", seen(t, text, "m", 5, wide), "1.0.0 1.1.0×3 2.1.1 1.1.1×4 1.0.1 0.0.1×2 2 in 12")
	same(t, "no picks", told(t, "m = (pick 9)", "m", 3, wide), "9 in 12")
}

// What ICase does with nodes of each kind: those of which it has a Jump, those of which it has none, with K and without.
func TestCases(t *testing.T) {
	t.Parallel()
	const of = "n = (let (#0 #0) #0)\ng #0 #1 = #0\ni #0 = #0\n"
	for _, c := range []struct{ of, alts, want string }{
		{"3", "(2 : 20) (3 : 30) (4 : 40) (_ : 0)", "30"}, {"2", "(2 : 20) (3 : 30) (4 : 40) (_ : 0)", "20"}, {"4", "(2 : 20) (3 : 30) (4 : 40) (_ : 0)", "40"},
		{"5", "(2 : 20) (3 : 30) (4 : 40) (_ : 0)", "0"}, {"(i 3)", "(3 : 30) (_ : 0)", "30"}, {"3", "(_ : 9)", "9"},
		{"9223372036854775807", "(-9223372036854775808 : 1) (9223372036854775807 : 2) (_ : 0)", "2"}, {"-9223372036854775808", "(-9223372036854775808 : 1) (9223372036854775807 : 2) (_ : 0)", "1"},
		{"-1", "(1 : 20) (_ : 0)", "0"}, {"(prim + 1 1)", "(2 : 20) (_ : 0)", "20"},
		// A number among constructors, whose places are from 0 to 5.
		{"9", "(N : 1) (C #0 #1 : 2)", "match"}, {"9", "(N : 1) (_ : 2)", "2"}, {"-1", "(N : 1)", "match"}, {"-1", "(N : 1) (_ : 7)", "7"},
		{"2", "(N : 1) (C #0 #1 : 2) (_ : 3)", "match"}, {"0", "(N : 1) (_ : 3)", "match"}, {"0", "(False : 1) (_ : 3)", "3"}, {"3", "(False : 1) (_ : 3)", "match"},
		// Constructors.
		{"N", "(N : 1) (C #0 #1 : 2)", "1"}, {"N", "(C #0 #1 : 2) (N : 1)", "1"}, {"N", "(_ : 5)", "5"}, {"N", "(C #0 #1 : 2)", "match"}, {"N", "(C #0 #1 : 2) (_ : 6)", "6"},
		{"(C 8 9)", "(N : 1) (C #0 #1 : #0)", "8"}, {"(C 8 9)", "(N : 1) (C #0 #1 : #1)", "9"}, {"(C 8 9)", "(N : 1)", "match"}, {"(C 8 9)", "(N : 1) (_ : 5)", "5"},
		{"(T 7 8 9)", "(T #0 #1 #2 : (T #2 #0 #1))", "(T 9 7 8)"}, {"(T 7 8 9)", "(N : 1) (_ : 5)", "5"}, {"(P 7 8)", "(C #0 #1 : 1) (_ : 2)", "2"}, {"(P 7 8)", "(C #0 #1 : 1)", "match"},
		{"(i (C 8 9))", "(C #1 #0 : (C #0 #1))", "(C 9 8)"}, {"(i N)", "(N : 1)", "1"}, {"(C (prim / 1 0) n)", "(C #0 #1 : 4)", "4"}, {"(C n (prim / 1 0))", "(C #0 #1 : #1)", "zero"},
		// A constructor among numbers: it is known by its place.
		{"(C 8 9)", "(2 : 20) (_ : 0)", "20"}, {"True", "(2 : 20) (1 : 10) (_ : 0)", "10"}, {"N", "(1 : 10) (_ : 0)", "0"},
		// Truths.
		{"(prim < 1 2)", "(True : 1) (False : 2)", "1"}, {"(prim < 2 1)", "(True : 1) (False : 2)", "2"}, {"(prim < 2 1)", "(True : 1)", "match"}, {"(prim < 2 1)", "(True : 1) (_ : 8)", "8"},
		{"True", "(True : 1) (False : 2)", "1"}, {"False", "(True : 1) (False : 2)", "2"},
		// Functions: an NApp, an NGlob.
		{"(g 1)", "(N : 1) (_ : 2)", "2"}, {"(g 1)", "(N : 1)", "match"}, {"(g 1)", "(1 : 1) (_ : 2)", "2"}, {"g", "(1 : 1) (_ : 2)", "2"}, {"g", "(N : 1) (C #0 #1 : 3)", "match"},
		{"g", "(N : 1) (_ : 2)", "2"}, {"+", "(3 : 1) (_ : 2)", "2"}, {"C", "(C #0 #1 : 1) (_ : 2)", "2"}, {"C", "(C #0 #1 : 1)", "match"}, {"(C 1)", "(C #0 #1 : 1)", "match"}, {"(T 1 2)", "(T #0 #1 #2 : 1) (_ : 2)", "2"},
		// What comes to nothing.
		{"n", "(_ : 1)", "loop"}, {"(prim / 1 0)", "(_ : 1)", "zero"}, {"(prim % 1 0)", "(_ : 1)", "zero"},
	} {
		for _, text := range []string{"m = (case " + c.of + " " + c.alts + ")\n", "m = (i m2)\nm2 = (case (i " + c.of + ") " + c.alts + ")\n"} {
			got, _, _ := strings.Cut(told(t, text+of, "m", 0, wide), " in ")
			same(t, text, got, c.want)
		}
	}
	// In the midst of a code, too: each way goes on where they meet.
	for e, want := range map[string]string{"N": "101", "(C 8 9)": "117", "3": "match", "(P 1 2)": "104", "(T 1 2 3)": "103"} {
		text := "m = (prim + 100 (case " + e + " (N : 1) (C #0 #1 : (prim + #0 #1)) (T #0 #1 #2 : #2) (_ : 4)))"
		if e == "3" {
			text = strings.ReplaceAll(text, "(_ : 4)", "(False : 5)")
		}
		got, _, _ := strings.Cut(told(t, text, "m", 0, wide), " in ")
		same(t, text, got, want)
	}
}

// Each operator, now and as a function, on numbers and on nodes of other kinds.
func TestOperators(t *testing.T) {
	t.Parallel()
	const least, greatest = "-9223372036854775808", "9223372036854775807"
	for _, c := range []struct{ a, b, want string }{ // of + - * / % == /= < <= > >=
		{"7", "2", "9 5 14 3 1 False True False False True True"},
		{"-7", "2", "-5 -9 -14 -3 -1 False True True True False False"},
		{"7", "-2", "5 9 -14 -3 1 False True False False True True"},
		{"2", "2", "4 0 4 1 0 True False False True False True"},
		{"5", "0", "5 5 0 zero zero False True False False True True"},
		{"0", "0", "0 0 0 zero zero True False False True False True"},
		{"0", "5", "5 -5 0 0 0 False True True True False False"},
		{greatest, "1", least + " 9223372036854775806 " + greatest + " " + greatest + " 0 False True False False True True"},
		{least, "1", "-9223372036854775807 " + greatest + " " + least + " " + least + " 0 False True True True False False"},
		{least, "-1", greatest + " -9223372036854775807 " + least + " " + least + " 0 False True True True False False"},
		{least, greatest, "-1 1 " + least + " -1 -1 False True True True False False"},
		{least, least, "0 0 0 1 0 True False False True False True"},
		{greatest, "0", greatest + " " + greatest + " 0 zero zero False True False False True True"},
		{least, "0", least + " " + least + " 0 zero zero False True True True False False"},
		{"N", "1", "match match match match match match match match match match match"},
		{"1", "N", "match match match match match match match match match match match"},
		{"True", "False", "match match match match match match match match match match match"},
		{"(C 1 2)", "0", "match match match match match match match match match match match"},
		{"f", "0", "match match match match match match match match match match match"},
		{"0", "f", "match match match match match match match match match match match"},
		{"(f 1)", "1", "match match match match match match match match match match match"},
		{"1", "(f 1)", "match match match match match match match match match match match"},
		{"1", "+", "match match match match match match match match match match match"},
		{"1", "C", "match match match match match match match match match match match"},
		// The first one is asked first.
		{"(prim / 1 0)", "n", "zero zero zero zero zero zero zero zero zero zero zero"},
		{"n", "(prim / 1 0)", "loop loop loop loop loop loop loop loop loop loop loop"},
		{"N", "n", "loop loop loop loop loop loop loop loop loop loop loop"},
	} {
		const rest = "\nf #0 #1 = #0\nn = n"
		for i, want := range strings.Fields(c.want) {
			op := strings.Fields("+ - * / % == /= < <= > >=")[i]
			for _, b := range [][2]string{
				{"m = (prim " + op + " " + c.a + " " + c.b + ")", "m"},
				{"m = (" + op + " " + c.a + " " + c.b + ")", "m"},
				{"m = 1", "(prim " + op + " " + c.a + " " + c.b + ")"},
				{"m #0 = (#0 " + c.a + " " + c.b + ")", "(m " + op + ")"},
			} {
				got, _, _ := strings.Cut(told(t, b[0]+rest, b[1], 0, wide), " in ")
				same(t, b, got, want)
			}
		}
	}
}

// What is told: numbers, constructors in one another, functions.
func TestTerms(t *testing.T) {
	t.Parallel()
	const text = "f #0 #1 = #0\nnums #0 = (case #0 (0 : N) (_ : (C #0 (nums (prim - #0 1)))))\nones = (C 1 ones)\nfirst #0 = (case #0 (C #1 #2 : #1) (_ : fail))\nt = (T f (C f) (T 1 2))\n"
	for e, want := range map[string]string{
		"5": "5", "-5": "-5", "0": "0", "N": "N", "True": "True", "f": "->", "(f 1)": "->", "C": "->", "(C 1)": "->", "+": "->", "(+ 1)": "->", "(f f)": "->",
		"(C 1 2)": "(C 1 2)", "(C N (C 2 N))": "(C N (C 2 N))", "(T 1 2 3)": "(T 1 2 3)", "(T (T 1 2 3) (C N 4) (T N N (P 5 6)))": "(T (T 1 2 3) (C N 4) (T N N (P 5 6)))",
		"t": "(T -> -> ->)", "(P t t)": "(P (T -> -> ->) (T -> -> ->))", "(nums 3)": "(C 3 (C 2 (C 1 N)))", "(let (#0 (nums 2)) (P #0 #0))": "(P (C 2 (C 1 N)) (C 2 (C 1 N)))",
		"(first ones)": "1", "(C (first ones) (first N))": "match", "(P (prim / 1 0) (first N))": "zero", "(P (first N) (prim / 1 0))": "match", "(T 1 (prim % 1 0) (first N))": "zero",
		"(P (prim == 1 1) (prim == 1 2))": "(P True False)", "(let (#0 (C #1 #0)) (#1 (first #0)) #0)": "loop", "ones": "fuel", "(P ones (first N))": "fuel",
	} {
		got, _, _ := strings.Cut(told(t, text, e, 0, wide), " in ")
		same(t, e, got, want)
	}
}

// The places of True and of False are told by their names, wherever these stand.
func TestTruths(t *testing.T) {
	t.Parallel()
	cons := knownCons()
	for first := range cons {
		for second := range cons {
			if first == second {
				continue
			}
			// True at one place, and False at another.
			var l []api.Con
			for i := range cons {
				c := api.Con{Name: fmt.Sprint("D", i), Data: "D", Tag: i}
				switch i {
				case first:
					c = api.Con{Name: "True", Data: "Bool", Tag: 1}
				case second:
					c = api.Con{Name: "False", Data: "Bool"}
				}
				l = append(l, c)
			}
			p := loadedOf(t, supers("m #0 = (case (prim > #0 1) (True : 10) (False : 20))\nn #0 = (prim > #0 1)"), l)
			for e, want := range map[string]string{"(m 2)": "10", "(m 1)": "20", "(n 2)": "True", "(n 1)": "False"} {
				got, _, _ := strings.Cut(outText(t, ran(t, p, expr(e), 0, wide)), " in ")
				same(t, fmt.Sprint(e, first, second), got, want)
			}
		}
	}
}
