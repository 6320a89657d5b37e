package layout_test

import (
	"math"
	"slices"
	"strings"
	"testing"

	"changeling/api"
	"changeling/layout"
	"changeling/lex"
)

// tokens is a source's tokens.
func tokens(t *testing.T, src string) []api.Token {
	t.Helper()
	l, f := lex.Tokens(src)
	if f != (api.Fault{}) {
		t.Fatalf("Tokens(%q): %v", src, f)
	}
	return l
}

// text is the tokens' texts; a mark that is made is a `[`, `]` or `,`, which no source has.
func text(l []api.Token) string {
	var words []string
	for _, w := range l {
		s := w.Text
		if w.Made {
			s = strings.NewReplacer("{", "[", "}", "]", ";", ",").Replace(s)
		}
		words = append(words, s)
	}
	return strings.Join(words, " ")
}

// lays asks for what a source is laid to.
func lays(t *testing.T, src, want string) {
	t.Helper()
	if got := text(layout.Lay(tokens(t, src))); got != want {
		t.Errorf("%q: %s, not %s", src, got, want)
	}
}

// made is a mark that is made at a place.
func made(text string, line, col int) api.Token {
	return api.Token{Kind: api.WMark, Text: text, At: api.Pos{Line: line, Col: col}, Made: true}
}

// P4.1

func TestExamples(t *testing.T) {
	lays(t, "x = 1\ny = 2", "[ x = 1 , y = 2 ]")
	lays(t, "x = let a = 1 in a", "[ x = let [ a = 1 ] in a ]")
	lays(t, "x = let a = 1\n        b = 2 in a\ny = 3", "[ x = let [ a = 1 , b = 2 ] in a , y = 3 ]")
}

func TestNoTokens(t *testing.T) {
	want := []api.Token{made("{", 1, 1), made("}", 1, 1)}
	for _, l := range [][]api.Token{nil, {}} {
		if got := layout.Lay(l); !slices.Equal(got, want) {
			t.Errorf("Lay of none: %v", got)
		}
	}
	lays(t, "", "[ ]")
	lays(t, " \n -- x", "[ ]")
}

func TestLines(t *testing.T) {
	lays(t, "a", "[ a ]")
	lays(t, "   a", "[ a ]")
	lays(t, "\n\n   a\n   b\n   c", "[ a , b , c ]")
	lays(t, "a\n b\n  c\n d", "[ a b c d ]")
	lays(t, "a b\nc d", "[ a b , c d ]")
	lays(t, "a\n\n\nb", "[ a , b ]")
	lays(t, "  a\n b", "[ a ] b")
	lays(t, "  a\n b\n  c", "[ a ] b c")
	lays(t, "  a\nb\nb", "[ a ] b b")
	lays(t, "a ; b\n;c", "[ a ; b , ; c ]")
	lays(t, "a\n)", "[ a , ) ]")
	lays(t, "  (\n  a )", "[ ( , a ) ]")
	lays(t, "  (\n a )", "[ ( ] a )")
}

func TestLetAndIn(t *testing.T) {
	lays(t, "x = let a = 1\n    in a", "[ x = let [ a = 1 ] in a ]")
	lays(t, "x = let\n  a = 1\n  b = 2\n in a", "[ x = let [ a = 1 , b = 2 ] in a ]")
	lays(t, "x = let in a", "[ x = let [ ] in a ]")
	lays(t, "x = let\n in a", "[ x = let [ ] in a ]")
	lays(t, "x = let\ny", "[ x = let [ ] , y ]")
	lays(t, "  x = let\ny", "[ x = let [ ] ] y")
	lays(t, "x = let a = let b = 1 in b in a", "[ x = let [ a = let [ b = 1 ] in b ] in a ]")
	lays(t, "x = let a = let b = 1 in a", "[ x = let [ a = let [ b = 1 ] in a ] ]")
	lays(t, "x = let a = let b = 1 in a in a in a", "[ x = let [ a = let [ b = 1 ] in a ] in a in a ]")
	lays(t, "x = let let let in", "[ x = let [ let [ let [ ] in ] ] ]")
	lays(t, "x = let a = (1 in a", "[ x = let [ a = ( 1 in a ] ]")
	lays(t, "x = let a = { 1 in a", "[ x = let [ a = { 1 in a ] ]")
	lays(t, "x = let a = if b in a", "[ x = let [ a = if b ] in a ]")
	lays(t, "x = (let a = 1) in a", "[ x = ( let [ a = 1 ] ) in a ]")
	lays(t, "x = case let a = 1 of b", "[ x = case let [ a = 1 ] of [ b ] ]")
}

func TestCaseAndOf(t *testing.T) {
	lays(t, "f x = case x of\n  1 -> 2\n  y -> z\ng = 1", "[ f x = case x of [ 1 -> 2 , y -> z ] , g = 1 ]")
	lays(t, "f = case x of 1 -> case y of 2 -> 3\n              z -> 4", "[ f = case x of [ 1 -> case y of [ 2 -> 3 ] , z -> 4 ] ]")
	lays(t, "f = case case x of 1 -> 2 of 3 -> 4", "[ f = case case x of [ 1 -> 2 ] of [ 3 -> 4 ] ]")
	lays(t, "f = case x of", "[ f = case x of [ ] ]")
	lays(t, "f = case x of\ng", "[ f = case x of [ ] , g ]")
	lays(t, "f = (case x of 1 -> 2) 3", "[ f = ( case x of [ 1 -> 2 ] ) 3 ]")
	lays(t, "of a", "[ of [ a ] ]")
	lays(t, "of of a", "[ of [ of [ a ] ] ]")
	lays(t, "let a = 1 of b", "[ let [ a = 1 of [ b ] ] ]")
}

func TestIfThenElse(t *testing.T) {
	lays(t, "x = if let a = 1 then let b = 2 else let c = 3", "[ x = if let [ a = 1 ] then let [ b = 2 ] else let [ c = 3 ] ]")
	lays(t, "x = if case a of b then case c of d else e", "[ x = if case a of [ b ] then case c of [ d ] else e ]")
	lays(t, "x = let a = 1 then b", "[ x = let [ a = 1 then b ] ]")
	lays(t, "x = let a = 1 else b", "[ x = let [ a = 1 else b ] ]")
	lays(t, "x = if let a = 1 else b", "[ x = if let [ a = 1 else b ] ]")
	lays(t, "x = then let a = 1 else b", "[ x = then let [ a = 1 ] else b ]")
	lays(t, "x = if a then if b then let c else let d else e", "[ x = if a then if b then let [ c ] else let [ d ] else e ]")
	lays(t, "x = if (let a = 1 then b) then c", "[ x = if ( let [ a = 1 then b ] ) then c ]")
	lays(t, "x = if { let a then b } then c", "[ x = if { let [ a then b ] } then c ]")
	lays(t, "x = then (let a else b", "[ x = then ( let [ a else b ] ]")
	lays(t, "x = let a = 1 if in let b then", "[ x = let [ a = 1 if ] in let [ b then ] ]")
}

// A wait that stands above the one that is closed is gone with it.
func TestWaitsThatAreGone(t *testing.T) {
	lays(t, "let a case b in let c of d", "[ let [ a case b ] in let [ c of [ d ] ] ]")
	lays(t, "let case let if let then a of b", "[ let [ case let [ if let [ ] then a ] of [ b ] ] ]")
	lays(t, "if let a (let b then ) then c", "[ if let [ a ( let [ b then ] ) ] then c ]")
	lays(t, "if ( if let a ) let b then let c then", "[ if ( if let [ a ] ) let [ b ] then let [ c then ] ]")
	// That of an if is gone with its then, that of a then is its own.
	lays(t, "if then let a then", "[ if then let [ a then ] ]")
	lays(t, "if then else let a else", "[ if then else let [ a else ] ]")
}

func TestLinesCloseBlocks(t *testing.T) {
	lays(t, "f = let a = case b of\n          c -> d\n          e\n        g\nh", "[ f = let [ a = case b of [ c -> d , e ] , g ] , h ]")
	lays(t, "f = let a = let b = 1\nh", "[ f = let [ a = let [ b = 1 ] ] , h ]")
	lays(t, "f = let a = (let b = 1\n        c ) d", "[ f = let [ a = ( let [ b = 1 ] , c ) d ] ]")
	lays(t, "f = let a = (let b = 1\n       c ) d", "[ f = let [ a = ( let [ b = 1 ] ] c ) d ]")
	// A frame that a line takes away waits no more.
	lays(t, "a let b (\n   c let d )", "[ a let [ b ( ] c let [ d ) ] ]")
	lays(t, "a let b if\n  c let d then", "[ a let [ b if ] c let [ d then ] ]")
	// But those below the block are still there.
	lays(t, "a ( let b (\n   c let d )", "[ a ( let [ b ( ] c let [ d ] ) ]")
	lays(t, "a let b\n  in let c", "[ a let [ b ] in let [ c ] ]")
	// What closes its own block by its column does so ahead of what its word closes.
	lays(t, "let a = 1\nin a", "[ let [ a = 1 ] , in a ]")
	lays(t, "x = let a = 1\n        in a", "[ x = let [ a = 1 , ] in a ]")
	lays(t, "x = let a = 1\n         in a", "[ x = let [ a = 1 ] in a ]")
}

// The token that opens a block is parted from nothing, even where it is its line's first.
func TestFirstOfABlock(t *testing.T) {
	lays(t, "let\n  a\n  b", "[ let [ a , b ] ]")
	lays(t, "x let\n  let\n    a\n    b\n  c", "[ x let [ let [ a , b ] , c ] ]")
	lays(t, "x of\n (", "[ x of [ ( ] ]")
	lays(t, "x let\n in", "[ x let [ ] in ]")
	lays(t, "( let\n )", "[ ( let [ ] ) ]")
	lays(t, "( let )", "[ ( let [ ] ) ]")
	lays(t, "{ let }", "{ let [ ] }")
}

func TestBlockThatIsNoFurther(t *testing.T) {
	lays(t, "x let\nlet\nlet", "[ x let [ ] , let [ ] , let [ ] ]")
	lays(t, "a let\n    b of\n   c", "[ a let [ b of [ ] ] c ]")
	lays(t, "a let\n    b of\n    c", "[ a let [ b of [ ] , c ] ]")
	lays(t, "a let\n    b of\n     c", "[ a let [ b of [ c ] ] ]")
	// On the same line, too, if its column is the block's by chance of what is handed in.
	at := api.Pos{Line: 1, Col: 1}
	l := []api.Token{{Kind: api.WWord, Text: "let", At: at}, {Kind: api.WName, Text: "a", At: at}}
	if got := text(layout.Lay(l)); got != "[ let [ ] a ]" {
		t.Errorf("at one place: %s", got)
	}
}

func TestDueAtTheEnd(t *testing.T) {
	lays(t, "let", "[ let [ ] ]")
	lays(t, "x = let a of", "[ x = let [ a of [ ] ] ]")
	lays(t, "{ let", "{ let [ ]")
	lays(t, "(let", "[ ( let [ ] ]")
	got := layout.Lay(tokens(t, "x = 1\n  let"))
	want := []api.Token{made("{", 2, 3), made("}", 2, 3), made("}", 2, 3)}
	if len(got) < 3 || !slices.Equal(got[len(got)-3:], want) {
		t.Errorf("due at the end: %v", got)
	}
}

func TestBracesByHand(t *testing.T) {
	lays(t, "{ a\nb\n c }", "{ a b c }")
	lays(t, "{", "{")
	lays(t, "}", "[ } ]")
	lays(t, "{}", "{ }")
	lays(t, "x = let { a = 1 } in a", "[ x = let { a = 1 } in a ]")
	lays(t, "x = let { a = 1 ; b = 2\n } in a\ny", "[ x = let { a = 1 ; b = 2 } in a , y ]")
	lays(t, "x = let {\na\nb\n}\ny", "[ x = let { a b } , y ]")
	lays(t, "x = let\n{ a }", "[ x = let { a } ]")
	lays(t, "x = case a of { b }\ny", "[ x = case a of { b } , y ]")
	lays(t, "{ x = let a = 1 ; b = 2 }", "{ x = let [ a = 1 ; b = 2 ] }")
	lays(t, "{ x = let a\nb = 2 }", "{ x = let [ a ] b = 2 }")
	lays(t, "{ x = let\na\nb\n c }", "{ x = let [ a , b c ] }")
	lays(t, "   x = { let\n a\n b }", "[ x = { let [ a , b ] } ]")
	lays(t, "   x = {\n y", "[ x = { y ]")
	lays(t, "   x = {\n y }\n z", "[ x = { y } ] z")
	// A brace where no block is due is braced, too.
	lays(t, "x { y\nz }", "[ x { y z } ]")
	lays(t, "x\n{ y\nz }\nw", "[ x , { y z } , w ]")
	// Closed, it takes all above it along.
	lays(t, "{ ( let a } ) in", "{ ( let [ a ] } ) in")
	lays(t, "let { ( let a ( } b in let c )", "[ let { ( let [ a ( ] } b in let [ c ) ] ]")
	lays(t, "{ { let a } let b }", "{ { let [ a ] } let [ b ] }")
	lays(t, "let a } b in", "[ let [ a } b ] in ]")
	lays(t, "{ } let a }", "{ } let [ a } ]")
	// The first token of all only is due.
	lays(t, "{ x }\ny", "{ x } y")
}

func TestBrackets(t *testing.T) {
	lays(t, "x (let a (let b ) c ) d", "[ x ( let [ a ( let [ b ] ) c ] ) d ]")
	lays(t, "x let a ) in", "[ x let [ a ) ] in ]")
	lays(t, "( { let a ) }", "[ ( { let [ a ) ] } ]")
	lays(t, "( { } let a ) b", "[ ( { } let [ a ] ) b ]")
	lays(t, "( if let a ) then", "[ ( if let [ a ] ) then ]")
	lays(t, "( ( let a ) let b ) let c )", "[ ( ( let [ a ] ) let [ b ] ) let [ c ) ] ]")
	lays(t, "let ( a in b ) in c", "[ let [ ( a in b ) ] in c ]")
	lays(t, "case ( of a ) of b", "[ case ( of [ a ] ) of [ b ] ]")
}

func TestNothingToClose(t *testing.T) {
	for _, s := range []string{"in", "then", "else", ")", "}"} {
		lays(t, s, "[ "+s+" ]")
		lays(t, "a "+s+" b\n"+s+" c", "[ a "+s+" b , "+s+" c ]")
		lays(t, "{ "+s, "{ "+s)
		lays(t, "of a "+s, "[ of [ a "+s+" ] ]")
	}
	lays(t, "of", "[ of [ ] ]")
}

// P4.1: places

func TestPlacesOfWhatIsMade(t *testing.T) {
	l := tokens(t, " x = let a\n\n         b in\n y")
	want := []api.Token{
		made("{", 1, 2), l[0], l[1], l[2], made("{", 1, 10), l[3], made(";", 3, 10), l[4], made("}", 3, 12), l[5], made(";", 4, 2), l[6], made("}", 4, 2),
	}
	if got := layout.Lay(l); !slices.Equal(got, want) {
		t.Errorf("%v, not %v", got, want)
	}
	l = tokens(t, "  x of y\n z let")
	want = []api.Token{
		made("{", 1, 3), l[0], l[1], made("{", 1, 8), l[2], made("}", 2, 2), made("}", 2, 2), l[3], l[4], made("{", 2, 4), made("}", 2, 4),
	}
	if got := layout.Lay(l); !slices.Equal(got, want) {
		t.Errorf("%v, not %v", got, want)
	}
}

// P4.1: other tokens are looked at for their places alone

func TestOtherKinds(t *testing.T) {
	for _, s := range []string{"let", "of", "case", "if", "then", "else", "in", "(", ")", "{", "}"} {
		for _, kind := range []int{api.WName, api.WCon, api.WOp, api.WInt, api.WMark, api.WWord, 0, -1, 7} {
			if kind == api.WMark && len(s) == 1 || kind == api.WWord && len(s) > 1 {
				continue
			}
			l := tokens(t, "if let a ( let b\n c")
			odd := api.Token{Kind: kind, Text: s, N: 5, At: api.Pos{Line: 1, Col: 30}}
			want := slices.Insert(layout.Lay(l), 9, odd)
			if got := layout.Lay(slices.Insert(l, 6, odd)); !slices.Equal(got, want) {
				t.Errorf("%q of the kind %d: %s, not %s", s, kind, text(got), text(want))
			}
			alone := layout.Lay([]api.Token{odd})
			if text(alone) != "[ "+s+" ]" {
				t.Errorf("%q of the kind %d alone: %s", s, kind, text(alone))
			}
		}
	}
}

func TestStrangePlaces(t *testing.T) {
	at := func(line, col int) api.Token {
		return api.Token{Kind: api.WName, Text: "a", At: api.Pos{Line: line, Col: col}}
	}
	for _, c := range []struct {
		l    []api.Token
		want string
	}{
		{[]api.Token{at(0, 0)}, "[ ] a"},
		{[]api.Token{at(1, 0), at(2, 0)}, "[ ] a a"},
		{[]api.Token{at(-1, -5), at(-2, -5), at(-3, -6)}, "[ ] a a a"},
		{[]api.Token{at(1, math.MinInt), at(2, math.MaxInt)}, "[ ] a a"},
		{[]api.Token{at(1, math.MaxInt), at(2, math.MaxInt), at(3, math.MinInt)}, "[ a , a ] a"},
		{[]api.Token{at(1, 1), at(2, 0), at(3, -1)}, "[ a ] a a"},
		{[]api.Token{at(1, 1), at(1, 1), at(1, 0)}, "[ a a a ]"},
		{[]api.Token{at(5, 2), at(4, 2), at(5, 2)}, "[ a , a , a ]"},
		{[]api.Token{at(math.MinInt, 2), at(math.MaxInt, 2)}, "[ a , a ]"},
	} {
		if got := text(layout.Lay(c.l)); got != c.want {
			t.Errorf("%v: %s, not %s", c.l, got, c.want)
		}
	}
}

// P4.2

func TestReal(t *testing.T) {
	for _, l := range [][]api.Token{nil, {}} {
		if got := layout.Real(l); len(got) != 0 {
			t.Errorf("Real of none: %v", got)
		}
	}
	l := layout.Lay(tokens(t, "x = let a = 9223372036854775808\n y in { z }"))
	l = append(l, api.Token{Kind: -3, Text: "\xff", N: 7, At: api.Pos{Line: -1, Col: -2}, Made: true}, api.Token{})
	given := slices.Clone(l)
	got := layout.Real(l)
	if len(got) != len(l) {
		t.Fatalf("%d of %d tokens", len(got), len(l))
	}
	for i, w := range l {
		w.Made = false
		if got[i] != w {
			t.Errorf("Real: %v of %v", got[i], l[i])
		}
	}
	if !slices.Equal(l, given) {
		t.Error("Real changed what it was given")
	}
}

func TestNewMemory(t *testing.T) {
	l := tokens(t, "{ x = 1 }")
	given := slices.Clone(l)
	for name, f := range map[string]func([]api.Token) []api.Token{"Lay": layout.Lay, "Real": layout.Real} {
		a, b := f(l), f(l)
		_ = append(a, api.Token{Kind: 99})
		for i := range a {
			a[i] = api.Token{Kind: 99}
		}
		if !slices.Equal(l, given) || !slices.Equal(b, given) || !slices.Equal(f(l), given) {
			t.Errorf("%s: what is answered is shared", name)
		}
	}
}

// P1

func TestManyTokens(t *testing.T) {
	const n = 1 << 14
	for _, s := range []string{"let", "of", "case", "if", "then", "else", "in", "(", ")", "{", "}", "a"} {
		kind := api.WWord
		if len(s) == 1 {
			kind = api.WMark
		}
		l := make([]api.Token, n)
		for i := range l {
			l[i] = api.Token{Kind: kind, Text: s, At: api.Pos{Line: i / 3, Col: i%5*n + i}}
		}
		if got := layout.Lay(l); len(got) < n || len(layout.Real(got)) != len(got) {
			t.Errorf("many %q: %d", s, len(got))
		}
	}
}
