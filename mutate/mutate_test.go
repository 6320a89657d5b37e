package mutate_test

import (
	"fmt"
	"reflect"
	"strings"
	"testing"

	"changeling/api"
	"changeling/mutate"
	"changeling/parse"
	"changeling/show"
)

func same(t *testing.T, what, got, want any) {
	t.Helper()
	if !reflect.DeepEqual(got, want) {
		t.Error(cut(what)+":", cut(got), "not", cut(want))
	}
}

// cut is the beginning of something's text.
func cut(x any) string {
	s := fmt.Sprint(x)
	return s[:min(len(s), 2000)]
}

func program(t *testing.T, src string) api.Program {
	t.Helper()
	p, fault := parse.Program(src)
	if fault.Err != api.OK {
		t.Fatal(fault, src)
	}
	return p
}

// line is the form of a program's bindings, in one line.
func line(p api.Program) string {
	text := show.Program(api.Program{Binds: p.Binds})
	return strings.ReplaceAll(strings.TrimSuffix(text, "\n"), "\n", "; ")
}

func lineOf(m api.Mutant) string {
	return fmt.Sprint(m.Site, " ", mutate.Name(m.Op), " ", line(m.Program))
}

// marked are a program's rewrites, a line each: with a + ahead, if it is the next mutant, else with a -. Of what is left out is told that it is.
func marked(t *testing.T, p api.Program) []string {
	t.Helper()
	mutants, fault := mutate.All(p)
	same(t, line(p), fault, api.Fault{})
	var l []string
	for _, m := range mutate.Rewrites(p) {
		sign := "- "
		if len(mutants) > 0 && fmt.Sprint(mutants[0]) == fmt.Sprint(m) {
			sign, mutants = "+ ", mutants[1:]
		}
		l = append(l, sign+lineOf(m))
		same(t, line(p), fmt.Sprint(m.Program.Datas, m.Program.Fixes), fmt.Sprint(p.Datas, p.Fixes))
	}
	same(t, line(p), len(mutants), 0)
	return l
}

const datas = "data L a = N | C a (L a); data T = X | Y | Z; data U = U; data D a = E | F a | G Int | H (D a); "

// expect asks for all rewrites of a source, with which of them are mutants.
func expect(t *testing.T, src string, sites int, want string) {
	t.Helper()
	p := program(t, datas+src)
	same(t, src, mutate.Sites(p), sites)
	var wanted []string
	for s := range strings.SplitSeq(want, "\n") {
		if s = strings.TrimSpace(s); s != "" {
			wanted = append(wanted, s)
		}
	}
	same(t, src, strings.Join(marked(t, p), "\n"), strings.Join(wanted, "\n"))
}

// P21.1, P21.2

func TestExample(t *testing.T) {
	p := program(t, "f x = x + 1")
	l, fault := mutate.All(p)
	same(t, "fault", fault, api.Fault{})
	var got []string
	for _, m := range l {
		got = append(got, show.Program(m.Program))
	}
	same(t, "mutants", got, []string{"f x = x - 1\n", "f x = x * 1\n", "f x = x / 1\n", "f x = x % 1\n", "f x = x + 2\n", "f x = x + 0\n"})
}

func TestNoBindings(t *testing.T) {
	expect(t, "", 0, "")
	for _, src := range []string{"", "infixl 3 +", datas} {
		p := program(t, src)
		same(t, src, mutate.Sites(p), 0)
		same(t, src, len(mutate.Rewrites(p)), 0)
		l, fault := mutate.All(p)
		same(t, src, len(l), 0)
		same(t, src, fault, api.Fault{})
	}
}

func TestClauses(t *testing.T) {
	expect(t, "f x = x", 3, "")
	expect(t, "f 0 = 1; f n = 2", 5, `
		+ 0 swap-clause f n = 2; f 0 = 1
		- 0 drop-clause f n = 2
		+ 0 drop-clause f 0 = 1
		- 1 wild f _ = 1; f n = 2
		+ 1 pat-next f 1 = 1; f n = 2
		+ 1 pat-prev f (-1) = 1; f n = 2
		+ 2 next f 0 = 2; f n = 2
		+ 2 prev f 0 = 0; f n = 2
		- 2 zero f 0 = 0; f n = 2
		+ 4 next f 0 = 1; f n = 3
		+ 4 prev f 0 = 1; f n = 1
		+ 4 zero f 0 = 1; f n = 0`)
	// Without one clause the others may have another type, or need not.
	expect(t, "f x U = x; f y z = y; f _ w = w; g _ = f", 13, `
		+ 0 swap-clause f y z = y; f x U = x; f _ w = w; g _ = f
		+ 0 swap-clause f x U = x; f _ w = w; f y z = y; g _ = f
		- 0 drop-clause f y z = y; f _ w = w; g _ = f
		+ 0 drop-clause f x U = x; f _ w = w; g _ = f
		- 0 drop-clause f x U = x; f y z = y; g _ = f
		- 2 wild f x _ = x; f y z = y; f _ w = w; g _ = f`)
	// Equal clauses, side by side or not.
	expect(t, "f x = x; f x = x", 5, `
		- 0 swap-clause f x = x; f x = x
		+ 0 drop-clause f x = x
		- 0 drop-clause f x = x`)
	expect(t, "f x = x; f y = y; f x = x", 7, `
		+ 0 swap-clause f y = y; f x = x; f x = x
		+ 0 swap-clause f x = x; f x = x; f y = y
		+ 0 drop-clause f y = y; f x = x
		+ 0 drop-clause f x = x; f x = x
		+ 0 drop-clause f x = x; f y = y`)
	expect(t, "f x = x; f x = x; f y = y; f y = y", 9, `
		- 0 swap-clause f x = x; f x = x; f y = y; f y = y
		+ 0 swap-clause f x = x; f y = y; f x = x; f y = y
		- 0 swap-clause f x = x; f x = x; f y = y; f y = y
		+ 0 drop-clause f x = x; f y = y; f y = y
		- 0 drop-clause f x = x; f y = y; f y = y
		+ 0 drop-clause f x = x; f x = x; f y = y
		- 0 drop-clause f x = x; f x = x; f y = y`)
	// Several bindings, of other arities.
	expect(t, "f x y z = x; f x y z = g; g = g; h X = h Y; h x = g", 18, `
		+ 0 swap-clause f x y z = g; f x y z = x; g = g; h X = h Y; h x = g
		- 0 drop-clause f x y z = g; g = g; h X = h Y; h x = g
		+ 0 drop-clause f x y z = x; g = g; h X = h Y; h x = g
		+ 11 swap-clause f x y z = x; f x y z = g; g = g; h x = g; h X = h Y
		- 11 drop-clause f x y z = x; f x y z = g; g = g; h x = g
		+ 11 drop-clause f x y z = x; f x y z = g; g = g; h X = h Y
		+ 12 wild f x y z = x; f x y z = g; g = g; h _ = h Y; h x = g
		+ 15 con f x y z = x; f x y z = g; g = g; h X = h X; h x = g
		+ 15 con f x y z = x; f x y z = g; g = g; h X = h Z; h x = g`)
}

func TestPatterns(t *testing.T) {
	const least, most = "(-9223372036854775808)", "9223372036854775807"
	at := strings.NewReplacer("LEAST", least, "MOST", most, "MORE", "(-9223372036854775807)", "LESS", "9223372036854775806").Replace
	expect(t, at("f 0 LEAST x = x; g MOST _ 1 = (+); h (-1) = g"), 13, at(`
		- 1 wild f _ LEAST x = x; g MOST _ 1 = (+); h (-1) = g
		+ 1 pat-next f 1 LEAST x = x; g MOST _ 1 = (+); h (-1) = g
		+ 1 pat-prev f (-1) LEAST x = x; g MOST _ 1 = (+); h (-1) = g
		- 2 wild f 0 _ x = x; g MOST _ 1 = (+); h (-1) = g
		+ 2 pat-next f 0 MORE x = x; g MOST _ 1 = (+); h (-1) = g
		+ 2 pat-prev f 0 MOST x = x; g MOST _ 1 = (+); h (-1) = g
		- 6 wild f 0 LEAST x = x; g _ _ 1 = (+); h (-1) = g
		+ 6 pat-next f 0 LEAST x = x; g LEAST _ 1 = (+); h (-1) = g
		+ 6 pat-prev f 0 LEAST x = x; g LESS _ 1 = (+); h (-1) = g
		- 8 wild f 0 LEAST x = x; g MOST _ _ = (+); h (-1) = g
		+ 8 pat-next f 0 LEAST x = x; g MOST _ 2 = (+); h (-1) = g
		+ 8 pat-prev f 0 LEAST x = x; g MOST _ 0 = (+); h (-1) = g
		+ 9 arith f 0 LEAST x = x; g MOST _ 1 = (-); h (-1) = g
		+ 9 arith f 0 LEAST x = x; g MOST _ 1 = (*); h (-1) = g
		+ 9 arith f 0 LEAST x = x; g MOST _ 1 = (/); h (-1) = g
		+ 9 arith f 0 LEAST x = x; g MOST _ 1 = (%); h (-1) = g
		- 11 wild f 0 LEAST x = x; g MOST _ 1 = (+); h _ = g
		+ 11 pat-next f 0 LEAST x = x; g MOST _ 1 = (+); h 0 = g
		+ 11 pat-prev f 0 LEAST x = x; g MOST _ 1 = (+); h (-2) = g`))
	// Constructors with Args, and in these; a name that is bound in them.
	expect(t, "f (C (C 0 N) (C x N)) = x; f _ = N", 11, `
		+ 0 swap-clause f _ = N; f (C (C 0 N) (C x N)) = x
		- 0 drop-clause f _ = N
		+ 0 drop-clause f (C (C 0 N) (C x N)) = x
		- 1 wild f _ = x; f _ = N
		- 2 wild f (C _ (C x N)) = x; f _ = N
		- 3 wild f (C (C _ N) (C x N)) = x; f _ = N
		+ 3 pat-next f (C (C 1 N) (C x N)) = x; f _ = N
		+ 3 pat-prev f (C (C (-1) N) (C x N)) = x; f _ = N
		+ 4 wild f (C (C 0 _) (C x N)) = x; f _ = N
		- 5 wild f (C (C 0 N) _) = x; f _ = N
		+ 7 wild f (C (C 0 N) (C x _)) = x; f _ = N
		- 10 con f (C (C 0 N) (C x N)) = x; f _ = C`)
	// The name stands for something further out, then.
	expect(t, "x = Z; f (C x y) = x; g X (C x y) z = x; g z (C X y) Y = z", 20, `
		+ 1 con x = X; f (C x y) = x; g X (C x y) z = x; g z (C X y) Y = z
		+ 1 con x = Y; f (C x y) = x; g X (C x y) z = x; g z (C X y) Y = z
		- 3 wild x = Z; f _ = x; g X (C x y) z = x; g z (C X y) Y = z
		+ 7 swap-clause x = Z; f (C x y) = x; g z (C X y) Y = z; g X (C x y) z = x
		- 7 drop-clause x = Z; f (C x y) = x; g z (C X y) Y = z
		- 7 drop-clause x = Z; f (C x y) = x; g X (C x y) z = x
		+ 8 wild x = Z; f (C x y) = x; g _ (C x y) z = x; g z (C X y) Y = z
		+ 9 wild x = Z; f (C x y) = x; g X _ z = x; g z (C X y) Y = z
		+ 15 wild x = Z; f (C x y) = x; g X (C x y) z = x; g z _ Y = z
		+ 16 wild x = Z; f (C x y) = x; g X (C x y) z = x; g z (C _ y) Y = z
		- 18 wild x = Z; f (C x y) = x; g X (C x y) z = x; g z (C X y) _ = z`)
}

func TestGuards(t *testing.T) {
	expect(t, "f x | x = 1 | True = 2; f y = 3", 10, `
		+ 0 swap-clause f y = 3; f x | x = 1 | True = 2
		- 0 drop-clause f y = 3
		+ 0 drop-clause f x | x = 1 | True = 2
		+ 2 guard f x | if x then False else True = 1 | True = 2; f y = 3
		+ 4 next f x | x = 2 | True = 2; f y = 3
		+ 4 prev f x | x = 0 | True = 2; f y = 3
		- 4 zero f x | x = 0 | True = 2; f y = 3
		+ 5 guard f x | x = 1 | if True then False else True = 2; f y = 3
		+ 6 con f x | x = 1 | False = 2; f y = 3
		+ 7 next f x | x = 1 | True = 3; f y = 3
		+ 7 prev f x | x = 1 | True = 1; f y = 3
		+ 7 zero f x | x = 1 | True = 0; f y = 3
		+ 9 next f x | x = 1 | True = 2; f y = 4
		+ 9 prev f x | x = 1 | True = 2; f y = 2
		+ 9 zero f x | x = 1 | True = 2; f y = 0`)
	// An EIf's first Arg; the EIf is the site, wherever it stands: what comes of a guard comes of it once more.
	expect(t, "f x y = if x then y else U", 7, `
		+ 3 guard f x y = if if x then False else True then y else U`)
	expect(t, "f x | if x then False else True = U", 8, `
		+ 2 guard f x | if if x then False else True then False else True = U
		- 3 guard f x | if if x then False else True then False else True = U
		+ 5 con f x | if x then True else True = U
		+ 6 con f x | if x then False else False = U`)
	expect(t, "f x y | if x then x else y = U", 9, `
		+ 3 guard f x y | if if x then x else y then False else True = U
		+ 4 guard f x y | if if x then False else True then x else y = U`)
	expect(t, "f x = if if x then x else x then if x then U else U else if x then U else U", 15, `
		+ 2 guard f x = if if if x then x else x then False else True then if x then U else U else if x then U else U
		+ 3 guard f x = if if if x then False else True then x else x then if x then U else U else if x then U else U
		+ 7 guard f x = if if x then x else x then if if x then False else True then U else U else if x then U else U
		+ 11 guard f x = if if x then x else x then if x then U else U else if if x then False else True then U else U`)
	// Of alternatives.
	expect(t, "f x = case x of { y | y -> U; z | x -> U | z -> U }", 15, `
		+ 2 swap-alt f x = case x of { z | x -> U | z -> U; y | y -> U }
		+ 2 drop-alt f x = case x of { z | x -> U | z -> U }
		+ 2 drop-alt f x = case x of { y | y -> U }
		+ 5 guard f x = case x of { y | if y then False else True -> U; z | x -> U | z -> U }
		+ 9 guard f x = case x of { y | y -> U; z | if x then False else True -> U | z -> U }
		+ 12 guard f x = case x of { y | y -> U; z | x -> U | if z then False else True -> U }`)
}

func TestAlternatives(t *testing.T) {
	expect(t, "f x = case x of { y -> y }", 6, "")
	expect(t, "f x = case x of { C 1 _ -> 2 }", 8, `
		- 4 wild f x = case x of { _ -> 2 }
		- 5 wild f x = case x of { C _ _ -> 2 }
		+ 5 pat-next f x = case x of { C 2 _ -> 2 }
		+ 5 pat-prev f x = case x of { C 0 _ -> 2 }
		+ 7 next f x = case x of { C 1 _ -> 3 }
		+ 7 prev f x = case x of { C 1 _ -> 1 }
		+ 7 zero f x = case x of { C 1 _ -> 0 }`)
	expect(t, "f x = case x of { X -> U; _ -> U }", 8, `
		+ 2 swap-alt f x = case x of { _ -> U; X -> U }
		- 2 drop-alt f x = case x of { _ -> U }
		+ 2 drop-alt f x = case x of { X -> U }
		- 4 wild f x = case x of { _ -> U; _ -> U }`)
	expect(t, "f x = case x of { X -> U; Y -> U; _ -> U }", 10, `
		+ 2 swap-alt f x = case x of { Y -> U; X -> U; _ -> U }
		+ 2 swap-alt f x = case x of { X -> U; _ -> U; Y -> U }
		+ 2 drop-alt f x = case x of { Y -> U; _ -> U }
		+ 2 drop-alt f x = case x of { X -> U; _ -> U }
		+ 2 drop-alt f x = case x of { X -> U; Y -> U }
		+ 4 wild f x = case x of { _ -> U; Y -> U; _ -> U }
		+ 6 wild f x = case x of { X -> U; _ -> U; _ -> U }`)
	// Equal ones; those that are equal but for a place are, too.
	expect(t, "f x = case x of { X -> U; X -> U; _ -> U; X -> U }", 12, `
		- 2 swap-alt f x = case x of { X -> U; X -> U; _ -> U; X -> U }
		+ 2 swap-alt f x = case x of { X -> U; _ -> U; X -> U; X -> U }
		+ 2 swap-alt f x = case x of { X -> U; X -> U; X -> U; _ -> U }
		+ 2 drop-alt f x = case x of { X -> U; _ -> U; X -> U }
		- 2 drop-alt f x = case x of { X -> U; _ -> U; X -> U }
		+ 2 drop-alt f x = case x of { X -> U; X -> U; X -> U }
		+ 2 drop-alt f x = case x of { X -> U; X -> U; _ -> U }
		+ 4 wild f x = case x of { _ -> U; X -> U; _ -> U; X -> U }
		+ 6 wild f x = case x of { X -> U; _ -> U; _ -> U; X -> U }
		+ 10 wild f x = case x of { X -> U; X -> U; _ -> U; _ -> U }`)
	// What the alternatives look at comes ahead of them, and they may have some within.
	expect(t, "f = case case X of { _ -> Y } of { X -> case U of { _ | True -> U }; _ -> U }", 15, `
		+ 1 swap-alt f = case case X of { _ -> Y } of { _ -> U; X -> case U of { _ | True -> U } }
		+ 1 drop-alt f = case case X of { _ -> Y } of { _ -> U }
		+ 1 drop-alt f = case case X of { _ -> Y } of { X -> case U of { _ | True -> U } }
		+ 3 con f = case case Y of { _ -> Y } of { X -> case U of { _ | True -> U }; _ -> U }
		+ 3 con f = case case Z of { _ -> Y } of { X -> case U of { _ | True -> U }; _ -> U }
		+ 5 con f = case case X of { _ -> X } of { X -> case U of { _ | True -> U }; _ -> U }
		+ 5 con f = case case X of { _ -> Z } of { X -> case U of { _ | True -> U }; _ -> U }
		+ 6 wild f = case case X of { _ -> Y } of { _ -> case U of { _ | True -> U }; _ -> U }
		+ 10 guard f = case case X of { _ -> Y } of { X -> case U of { _ | if True then False else True -> U }; _ -> U }
		+ 11 con f = case case X of { _ -> Y } of { X -> case U of { _ | False -> U }; _ -> U }`)
}

func TestConstructors(t *testing.T) {
	expect(t, "f = U; g = True; h = False; i = Y", 8, `
		+ 3 con f = U; g = False; h = False; i = Y
		+ 5 con f = U; g = True; h = True; i = Y
		+ 7 con f = U; g = True; h = False; i = X
		+ 7 con f = U; g = True; h = False; i = Z`)
	// Fields make other types; but some functions take whatever there is.
	expect(t, "f = E; g = H (F U); h = G", 10, `
		- 1 con f = F; g = H (F U); h = G
		- 1 con f = G; g = H (F U); h = G
		- 1 con f = H; g = H (F U); h = G
		- 4 con f = E; g = E (F U); h = G
		- 4 con f = E; g = F (F U); h = G
		- 4 con f = E; g = G (F U); h = G
		- 6 con f = E; g = H (E U); h = G
		- 6 con f = E; g = H (G U); h = G
		- 6 con f = E; g = H (H U); h = G
		- 9 con f = E; g = H (F U); h = E
		- 9 con f = E; g = H (F U); h = F
		- 9 con f = E; g = H (F U); h = H`)
	expect(t, "f _ = U; g = f F; h x = C x (C E N)", 18, `
		+ 6 con f _ = U; g = f E; h x = C x (C E N)
		+ 6 con f _ = U; g = f G; h x = C x (C E N)
		+ 6 con f _ = U; g = f H; h x = C x (C E N)
		- 11 con f _ = U; g = f F; h x = N x (C E N)
		- 15 con f _ = U; g = f F; h x = C x (N E N)
		- 16 con f _ = U; g = f F; h x = C x (C F N)
		- 16 con f _ = U; g = f F; h x = C x (C G N)
		- 16 con f _ = U; g = f F; h x = C x (C H N)
		- 17 con f _ = U; g = f F; h x = C x (C E C)`)
}

func TestIntegers(t *testing.T) {
	expect(t, "f = 0; g = 1; h = (-1); i = 2", 8, `
		+ 1 next f = 1; g = 1; h = (-1); i = 2
		+ 1 prev f = (-1); g = 1; h = (-1); i = 2
		- 1 zero f = 0; g = 1; h = (-1); i = 2
		+ 3 next f = 0; g = 2; h = (-1); i = 2
		+ 3 prev f = 0; g = 0; h = (-1); i = 2
		- 3 zero f = 0; g = 0; h = (-1); i = 2
		+ 5 next f = 0; g = 1; h = 0; i = 2
		+ 5 prev f = 0; g = 1; h = (-2); i = 2
		- 5 zero f = 0; g = 1; h = 0; i = 2
		+ 7 next f = 0; g = 1; h = (-1); i = 3
		+ 7 prev f = 0; g = 1; h = (-1); i = 1
		+ 7 zero f = 0; g = 1; h = (-1); i = 0`)
	expect(t, "f = 9223372036854775807; g = (-9223372036854775808)", 4, `
		+ 1 next f = (-9223372036854775808); g = (-9223372036854775808)
		+ 1 prev f = 9223372036854775806; g = (-9223372036854775808)
		+ 1 zero f = 0; g = (-9223372036854775808)
		+ 3 next f = 9223372036854775807; g = (-9223372036854775807)
		+ 3 prev f = 9223372036854775807; g = 9223372036854775807
		+ 3 zero f = 9223372036854775807; g = 0`)
}

// become are a program with an expression in the place of an operator, for each other one of its kind.
func become(sign, head, op, tail string) string {
	kind, name := []string{"+", "-", "*", "/", "%"}, " arith "
	if strings.Contains(" == /= < <= > >= ", " "+op+" ") {
		kind, name = []string{"==", "/=", "<", "<=", ">", ">="}, " rel "
	}
	text := ""
	for _, other := range kind {
		if other != op {
			text += sign + name + head + other + tail + "\n"
		}
	}
	return text
}

func TestOperators(t *testing.T) {
	for _, op := range strings.Fields("+ - * / % == /= < <= > >=") {
		expect(t, "f = ("+op+")", 2, become("+ 1", "f = (", op, ")"))
		expect(t, "f x y = x "+op+" y", 8, become("+ 5", "f x y = x ", op, " y"))
		expect(t, "f x y = ("+op+") x y", 8, become("+ 5", "f x y = x ", op, " y"))
		expect(t, "f x = ("+op+") x", 5, become("+ 3", "f x = (", op, ") x"))
		expect(t, "f = (\\x -> x) ("+op+")", 5, become("+ 4", "f = (\\x -> x) (", op, ")"))
		expect(t, "f x y = let { g = ("+op+") } in g x y", 11, become("+ 5", "f x y = let { g = (", op, ") } in g x y"))
	}
	// Names that are none of them.
	expect(t, "(!) x y = y ! x; f = (!); (/=.) = U; (+-) x y = (/=.); g x = x", 19, "")
}

// Sites in what stands in the Args of each kind, and in bindings within bindings.
func TestSites(t *testing.T) {
	const a, b = "f X = let { ", " in d U Y; g = \\x y -> X"
	expect(t, a+"a U X = Y; a U z = let { b X = z; c | True = Z } in c } in let { d = a }"+b, 29, strings.NewReplacer("BEGIN ", a, " END", b).Replace(`
		- 1 wild f _ = let { a U X = Y; a U z = let { b X = z; c | True = Z } in c } in let { d = a } END
		+ 3 swap-clause BEGIN a U z = let { b X = z; c | True = Z } in c; a U X = Y } in let { d = a } END
		+ 3 drop-clause BEGIN a U z = let { b X = z; c | True = Z } in c } in let { d = a } END
		+ 3 drop-clause BEGIN a U X = Y } in let { d = a } END
		+ 4 wild BEGIN a _ X = Y; a U z = let { b X = z; c | True = Z } in c } in let { d = a } END
		+ 5 wild BEGIN a U _ = Y; a U z = let { b X = z; c | True = Z } in c } in let { d = a } END
		+ 6 con BEGIN a U X = X; a U z = let { b X = z; c | True = Z } in c } in let { d = a } END
		+ 6 con BEGIN a U X = Z; a U z = let { b X = z; c | True = Z } in c } in let { d = a } END
		+ 7 wild BEGIN a U X = Y; a _ z = let { b X = z; c | True = Z } in c } in let { d = a } END
		+ 11 wild BEGIN a U X = Y; a U z = let { b _ = z; c | True = Z } in c } in let { d = a } END
		+ 14 guard BEGIN a U X = Y; a U z = let { b X = z; c | if True then False else True = Z } in c } in let { d = a } END
		+ 15 con BEGIN a U X = Y; a U z = let { b X = z; c | False = Z } in c } in let { d = a } END
		+ 16 con BEGIN a U X = Y; a U z = let { b X = z; c | True = X } in c } in let { d = a } END
		+ 16 con BEGIN a U X = Y; a U z = let { b X = z; c | True = Y } in c } in let { d = a } END
		+ 25 con BEGIN a U X = Y; a U z = let { b X = z; c | True = Z } in c } in let { d = a } in d U X; g = \x y -> X
		+ 25 con BEGIN a U X = Y; a U z = let { b X = z; c | True = Z } in c } in let { d = a } in d U Z; g = \x y -> X
		+ 28 con BEGIN a U X = Y; a U z = let { b X = z; c | True = Z } in c } in let { d = a } in d U Y; g = \x y -> Y
		+ 28 con BEGIN a U X = Y; a U z = let { b X = z; c | True = Z } in c } in let { d = a } in d U Y; g = \x y -> Z`))
	expect(t, "f x = if case 1 of { 2 -> True } then (\\_ -> 3) (let { y = 4 } in 5) else 6 + 7", 19, `
		+ 2 guard f x = if if case 1 of { 2 -> True } then False else True then (\_ -> 3) (let { y = 4 } in 5) else 6 + 7
		+ 4 next f x = if case 2 of { 2 -> True } then (\_ -> 3) (let { y = 4 } in 5) else 6 + 7
		+ 4 prev f x = if case 0 of { 2 -> True } then (\_ -> 3) (let { y = 4 } in 5) else 6 + 7
		- 4 zero f x = if case 0 of { 2 -> True } then (\_ -> 3) (let { y = 4 } in 5) else 6 + 7
		+ 5 wild f x = if case 1 of { _ -> True } then (\_ -> 3) (let { y = 4 } in 5) else 6 + 7
		+ 5 pat-next f x = if case 1 of { 3 -> True } then (\_ -> 3) (let { y = 4 } in 5) else 6 + 7
		+ 5 pat-prev f x = if case 1 of { 1 -> True } then (\_ -> 3) (let { y = 4 } in 5) else 6 + 7
		+ 6 con f x = if case 1 of { 2 -> False } then (\_ -> 3) (let { y = 4 } in 5) else 6 + 7
		+ 9 next f x = if case 1 of { 2 -> True } then (\_ -> 4) (let { y = 4 } in 5) else 6 + 7
		+ 9 prev f x = if case 1 of { 2 -> True } then (\_ -> 2) (let { y = 4 } in 5) else 6 + 7
		+ 9 zero f x = if case 1 of { 2 -> True } then (\_ -> 0) (let { y = 4 } in 5) else 6 + 7
		+ 12 next f x = if case 1 of { 2 -> True } then (\_ -> 3) (let { y = 5 } in 5) else 6 + 7
		+ 12 prev f x = if case 1 of { 2 -> True } then (\_ -> 3) (let { y = 3 } in 5) else 6 + 7
		+ 12 zero f x = if case 1 of { 2 -> True } then (\_ -> 3) (let { y = 0 } in 5) else 6 + 7
		+ 13 next f x = if case 1 of { 2 -> True } then (\_ -> 3) (let { y = 4 } in 6) else 6 + 7
		+ 13 prev f x = if case 1 of { 2 -> True } then (\_ -> 3) (let { y = 4 } in 4) else 6 + 7
		+ 13 zero f x = if case 1 of { 2 -> True } then (\_ -> 3) (let { y = 4 } in 0) else 6 + 7
		`+become("+ 16", "f x = if case 1 of { 2 -> True } then (\\_ -> 3) (let { y = 4 } in 5) else 6 ", "+", " 7")+`
		+ 17 next f x = if case 1 of { 2 -> True } then (\_ -> 3) (let { y = 4 } in 5) else 7 + 7
		+ 17 prev f x = if case 1 of { 2 -> True } then (\_ -> 3) (let { y = 4 } in 5) else 5 + 7
		+ 17 zero f x = if case 1 of { 2 -> True } then (\_ -> 3) (let { y = 4 } in 5) else 0 + 7
		+ 18 next f x = if case 1 of { 2 -> True } then (\_ -> 3) (let { y = 4 } in 5) else 6 + 8
		+ 18 prev f x = if case 1 of { 2 -> True } then (\_ -> 3) (let { y = 4 } in 5) else 6 + 6
		+ 18 zero f x = if case 1 of { 2 -> True } then (\_ -> 3) (let { y = 4 } in 5) else 6 + 0`)
}
