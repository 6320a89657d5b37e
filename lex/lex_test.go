package lex_test

import (
	"fmt"
	"math"
	"slices"
	"strings"
	"testing"

	"changeling/api"
	"changeling/lex"
)

const (
	signs = "!#$%&*+./:<=>?@^|~-"
	marks = "(){};\\"
)

func keywords() []string {
	return []string{"data", "infixl", "infixr", "infix", "let", "in", "case", "of", "if", "then", "else"}
}

// token is what a text is told as, if it stands at a line and a column.
func token(kind int, text string, line, col int) api.Token {
	return api.Token{Kind: kind, Text: text, At: api.Pos{Line: line, Col: col}}
}

// whole is likewise, of digits.
func whole(text string, n int64, line, col int) api.Token {
	return api.Token{Kind: api.WInt, Text: text, N: n, At: api.Pos{Line: line, Col: col}}
}

func fault(err api.Errno, line, col int) api.Fault {
	return api.Fault{Err: err, At: api.Pos{Line: line, Col: col}}
}

// tells asks for just these tokens.
func tells(t *testing.T, src string, want ...api.Token) {
	t.Helper()
	l, f := lex.Tokens(src)
	if f != (api.Fault{}) || !slices.Equal(l, want) {
		t.Errorf("Tokens(%.60q): %v, %v, not %v", src, l, f, want)
	}
}

// fails asks for just this fault, and nothing beside it.
func fails(t *testing.T, src string, err api.Errno, line, col int) {
	t.Helper()
	l, f := lex.Tokens(src)
	if f != fault(err, line, col) || len(l) != 0 {
		t.Errorf("Tokens(%.60q): %d tokens, %v, not %v", src, len(l), f, fault(err, line, col))
	}
}

// P2.1: tokens

func TestExample(t *testing.T) {
	tells(t, "f x = x+1 -- one",
		token(api.WName, "f", 1, 1), token(api.WName, "x", 1, 3), token(api.WMark, "=", 1, 5),
		token(api.WName, "x", 1, 7), token(api.WOp, "+", 1, 8), whole("1", 1, 1, 9))
	tells(t, "a---b", token(api.WName, "a", 1, 1))
	tells(t, "+--", token(api.WOp, "+--", 1, 1))
	fails(t, "007", api.ErrNumber, 1, 1)
}

func TestNames(t *testing.T) {
	for _, s := range []string{"a", "z", "m", "aZ", "aA", "az", "a0", "a9", "a_", "a'", "x''", "x'y", "__", "_a", "_A", "_0", "_'", "_9z", "___", "datA", "datas", "dat", "data'", "data_", "data1", "_data", "lets", "inf", "infixx", "infixL", "infi", "i", "o", "els", "thenx", "if'", "iN", "aLongerNameOf_32_Bytes_0123456'8"} {
		tells(t, s, token(api.WName, s, 1, 1))
	}
}

func TestConstructors(t *testing.T) {
	for _, s := range []string{"A", "Z", "M", "Az", "AZ", "AA", "A0", "A9", "A_", "A'", "C''x", "Data", "DATA", "Let", "In", "If", "True"} {
		tells(t, s, token(api.WCon, s, 1, 1))
	}
}

func TestKeywords(t *testing.T) {
	for _, s := range keywords() {
		tells(t, s, token(api.WWord, s, 1, 1))
		tells(t, s+"x", token(api.WName, s+"x", 1, 1))
		tells(t, s+" x", token(api.WWord, s, 1, 1), token(api.WName, "x", 1, len(s)+2))
		tells(t, s+"("+s, token(api.WWord, s, 1, 1), token(api.WMark, "(", 1, len(s)+1), token(api.WWord, s, 1, len(s)+2))
	}
}

func TestNumbers(t *testing.T) {
	for s, n := range map[string]int64{
		"0": 0, "1": 1, "9": 9, "10": 10, "42": 42, "1234567890": 1234567890, "1000000000000000000": 1e18,
		"9223372036854775806": math.MaxInt64 - 1, "9223372036854775807": math.MaxInt64, "9223372036854775808": math.MinInt64,
	} {
		tells(t, s, whole(s, n, 1, 1))
	}
	tells(t, "1a", whole("1", 1, 1, 1), token(api.WName, "a", 1, 2))
	tells(t, "0x1", whole("0", 0, 1, 1), token(api.WName, "x1", 1, 2))
	tells(t, "1_0", whole("1", 1, 1, 1), token(api.WName, "_0", 1, 2))
	tells(t, "2C", whole("2", 2, 1, 1), token(api.WCon, "C", 1, 2))
	tells(t, "-1", token(api.WOp, "-", 1, 1), whole("1", 1, 1, 2))
	tells(t, "-0", token(api.WOp, "-", 1, 1), whole("0", 0, 1, 2))
	tells(t, "1.5", whole("1", 1, 1, 1), token(api.WOp, ".", 1, 2), whole("5", 5, 1, 3))
	tells(t, "-9223372036854775808", token(api.WOp, "-", 1, 1), whole("9223372036854775808", math.MinInt64, 1, 2))
}

func TestMarks(t *testing.T) {
	for i := range marks {
		m := marks[i : i+1]
		tells(t, m, token(api.WMark, m, 1, 1))
		tells(t, m+m, token(api.WMark, m, 1, 1), token(api.WMark, m, 1, 2))
		tells(t, m+"+", token(api.WMark, m, 1, 1), token(api.WOp, "+", 1, 2))
		tells(t, "+"+m, token(api.WOp, "+", 1, 1), token(api.WMark, m, 1, 2))
		tells(t, "a"+m+"a", token(api.WName, "a", 1, 1), token(api.WMark, m, 1, 2), token(api.WName, "a", 1, 3))
	}
	for _, m := range []string{"_", "=", "|", "->"} {
		tells(t, m, token(api.WMark, m, 1, 1))
		tells(t, m+" "+m, token(api.WMark, m, 1, 1), token(api.WMark, m, 1, len(m)+2))
	}
	tells(t, "\\_->_", token(api.WMark, "\\", 1, 1), token(api.WMark, "_", 1, 2), token(api.WMark, "->", 1, 3), token(api.WMark, "_", 1, 5))
	tells(t, "=(", token(api.WMark, "=", 1, 1), token(api.WMark, "(", 1, 2))
}

func TestOperators(t *testing.T) {
	for i := range signs {
		s := signs[i : i+1]
		if s != "=" && s != "|" {
			tells(t, s, token(api.WOp, s, 1, 1))
		}
		if s != "-" {
			tells(t, s+s, token(api.WOp, s+s, 1, 1))
		}
		tells(t, "+"+s, token(api.WOp, "+"+s, 1, 1))
	}
	for _, s := range []string{"==", "||", "/=", "<=", ">=", "=>", "<-", "=-", "|-", "->>", "->-", "->--", "|->", "=->", "-=", "-|", "-+", "-+--", "=--", "|--", "+--", "*-->", "!#$%&*+./:<=>?@^|~-!#$%&*+./:<="} {
		tells(t, s, token(api.WOp, s, 1, 1))
	}
	tells(t, "- >", token(api.WOp, "-", 1, 1), token(api.WOp, ">", 1, 3))
	tells(t, "- -", token(api.WOp, "-", 1, 1), token(api.WOp, "-", 1, 3))
	tells(t, "-\n-", token(api.WOp, "-", 1, 1), token(api.WOp, "-", 2, 1))
}

func TestAsLongAsCanBe(t *testing.T) {
	tells(t, "abC'9_D", token(api.WName, "abC'9_D", 1, 1))
	tells(t, "ab+cD", token(api.WName, "ab", 1, 1), token(api.WOp, "+", 1, 3), token(api.WName, "cD", 1, 4))
	tells(t, "letx let", token(api.WName, "letx", 1, 1), token(api.WWord, "let", 1, 6))
	tells(t, "a<-b", token(api.WName, "a", 1, 1), token(api.WOp, "<-", 1, 2), token(api.WName, "b", 1, 4))
	tells(t, "a=-1", token(api.WName, "a", 1, 1), token(api.WOp, "=-", 1, 2), whole("1", 1, 1, 4))
	tells(t, "C_ _c", token(api.WCon, "C_", 1, 1), token(api.WName, "_c", 1, 4))
}

// P2.1: blanks

func TestBlanks(t *testing.T) {
	for _, s := range []string{"", " ", "\n", "   ", "\n\n\n", " \n \n", "--", "---", "--\n", "-- a", " --a\n --b", "----------", "-->", "--+", "--a--b", "--\n--\n--", strings.Repeat("-", 100)} {
		tells(t, s)
	}
	tells(t, "  a", token(api.WName, "a", 1, 3))
	tells(t, "a  ", token(api.WName, "a", 1, 1))
	tells(t, "\n\n  a\n b \n", token(api.WName, "a", 3, 3), token(api.WName, "b", 4, 2))
	tells(t, "a b\nc d", token(api.WName, "a", 1, 1), token(api.WName, "b", 1, 3), token(api.WName, "c", 2, 1), token(api.WName, "d", 2, 3))
}

func TestRemarks(t *testing.T) {
	a, b := token(api.WName, "a", 1, 1), token(api.WName, "b", 2, 1)
	for _, s := range []string{"a--\nb", "a --\nb", "a-- x y z\nb", "a---\nb", "a-->\nb", "a----------\nb", "a -- -- \nb", "a--\"[],`\t\r\x00\x7f\x80\xff\u00e4'\nb", "a--" + strings.Repeat("x", 200) + "\nb", "a--007\nb"} {
		tells(t, s, a, b)
	}
	tells(t, "--a\nb--", b)
	tells(t, "--a\n\n --\n b", token(api.WName, "b", 4, 2))
	tells(t, "1--2", whole("1", 1, 1, 1))
	tells(t, "(--)", token(api.WMark, "(", 1, 1))
	tells(t, "_--", token(api.WMark, "_", 1, 1))
	tells(t, "a'--", token(api.WName, "a'", 1, 1))
	tells(t, "+ --", token(api.WOp, "+", 1, 1))
	tells(t, "= -- =\n=", token(api.WMark, "=", 1, 1), token(api.WMark, "=", 2, 1))
	tells(t, "+-- a\nb", token(api.WOp, "+--", 1, 1), token(api.WName, "a", 1, 5), b)
	tells(t, "->-- a", token(api.WOp, "->--", 1, 1), token(api.WName, "a", 1, 6))
}

// P2.1: errors

func TestNoToken(t *testing.T) {
	begins := " \n_0123456789" + signs + marks
	for c := 0; c < 256; c++ {
		s := string([]byte{byte(c)})
		letter := 'a' <= c && c <= 'z' || 'A' <= c && c <= 'Z'
		if letter || strings.Contains(begins, s) {
			if _, f := lex.Tokens(s); f != (api.Fault{}) {
				t.Errorf("Tokens(%q): %v", s, f)
			}
			continue
		}
		fails(t, s, api.ErrChar, 1, 1)
		fails(t, "a = 1\n  b "+s+" c", api.ErrChar, 2, 5)
		fails(t, "+"+s, api.ErrChar, 1, 2)
		fails(t, "("+s, api.ErrChar, 1, 2)
		fails(t, "12"+s, api.ErrChar, 1, 3)
		tells(t, "a--"+s, token(api.WName, "a", 1, 1))
		if c != '\'' {
			fails(t, "a"+s, api.ErrChar, 1, 2)
			fails(t, "Aa"+s, api.ErrChar, 1, 3)
		}
	}
	fails(t, "a\n \"b", api.ErrChar, 2, 2)
	fails(t, "\u00e4", api.ErrChar, 1, 1)
	fails(t, "-- \u00e4\n a\u00e4", api.ErrChar, 2, 3)
	fails(t, "a\r\nb", api.ErrChar, 1, 2)
	fails(t, "a\tb", api.ErrChar, 1, 2)
}

func TestLongSource(t *testing.T) {
	full := strings.Repeat(" ", api.MaxSource)
	tells(t, full)
	tells(t, full[1:]+"a", token(api.WName, "a", 1, api.MaxSource))
	tells(t, strings.Repeat("\n", api.MaxSource-1)+"a", token(api.WName, "a", api.MaxSource, 1))
	tells(t, "a --"+full[4:], token(api.WName, "a", 1, 1))
	for _, s := range []string{full + " ", full + "\n", "\n" + full, "\"" + full, "007" + full, full + "\"", full[1:] + "ab", "--" + full, strings.Repeat("a", api.MaxSource+1), strings.Repeat("1", api.MaxSource+1), full + full + full, "\n\n \xff" + full, strings.Repeat("; ", api.MaxSource)} {
		fails(t, s, api.ErrLong, 1, 1)
	}
}

func TestLongToken(t *testing.T) {
	for _, c := range []struct {
		kind        int
		first, more string
	}{
		{api.WName, "a", "b"}, {api.WName, "_", "'"}, {api.WName, "x", "Z"}, {api.WName, "l", "0"}, {api.WCon, "C", "d"}, {api.WCon, "C", "9"}, {api.WOp, "+", "-"}, {api.WOp, "=", "="}, {api.WOp, "|", "<"},
	} {
		s := c.first + strings.Repeat(c.more, api.MaxName-1)
		tells(t, s, token(c.kind, s, 1, 1))
		tells(t, s+" "+s, token(c.kind, s, 1, 1), token(c.kind, s, 1, api.MaxName+2))
		fails(t, s+c.more, api.ErrLong, 1, 1)
		fails(t, " a\n( "+s+c.more+" \"", api.ErrLong, 2, 3)
		fails(t, s+strings.Repeat(c.more, 4000), api.ErrLong, 1, 1)
	}
	// Marks that touch are tokens of their own, however many there are.
	if l, f := lex.Tokens(strings.Repeat("(", 100)); len(l) != 100 || f != (api.Fault{}) {
		t.Error("100 marks:", len(l), f)
	}
}

func TestWrongNumber(t *testing.T) {
	for _, s := range []string{
		"00", "01", "007", "0000", "09223372036854775807", "9223372036854775809", "9223372036854775810", "9999999999999999999", "10000000000000000000", "18446744073709551615", "18446744073709551616", "18446744073709551617", "27670116110564327424", "09223372036854775808", "92233720368547758080",
		strings.Repeat("1", api.MaxName), strings.Repeat("1", api.MaxName+1), strings.Repeat("0", api.MaxName+1), strings.Repeat("9", 8000),
	} {
		fails(t, s, api.ErrNumber, 1, 1)
		fails(t, "a\n  "+s+" \"", api.ErrNumber, 2, 3)
		fails(t, "-"+s, api.ErrNumber, 1, 2)
		fails(t, "x = a"+" "+s+"b", api.ErrNumber, 1, 7)
	}
}

func TestManyTokens(t *testing.T) {
	full := strings.Repeat("; ", api.MaxTokens)
	col := 2*api.MaxTokens + 1
	for _, s := range []string{full, full + "   \n\n", full + "--;", full[:len(full)-1]} {
		l, f := lex.Tokens(s)
		if len(l) != api.MaxTokens || f != (api.Fault{}) {
			t.Errorf("%d tokens, %v", len(l), f)
		}
	}
	fails(t, full+";", api.ErrLong, 1, col)
	fails(t, full+"a", api.ErrLong, 1, col)
	fails(t, full+"1", api.ErrLong, 1, col)
	fails(t, full+"\n  let", api.ErrLong, 2, 3)
	fails(t, full+"; \"", api.ErrLong, 1, col)
	fails(t, full+"; 007", api.ErrLong, 1, col)
	fails(t, strings.Repeat(";", 4000), api.ErrLong, 1, api.MaxTokens+1)
}

// Of several errors the first token's counts; of one token's, the first one named.
func TestOrderOfErrors(t *testing.T) {
	long := strings.Repeat("a", api.MaxName+1)
	full := strings.Repeat("; ", api.MaxTokens)
	col := 2*api.MaxTokens + 1
	fails(t, "007 \"", api.ErrNumber, 1, 1)
	fails(t, "\" 007", api.ErrChar, 1, 1)
	fails(t, long+" \"", api.ErrLong, 1, 1)
	fails(t, "\" "+long, api.ErrChar, 1, 1)
	fails(t, long+" 007", api.ErrLong, 1, 1)
	fails(t, "007 "+long, api.ErrNumber, 1, 1)
	fails(t, "007"+long, api.ErrNumber, 1, 1)
	fails(t, full+"\"", api.ErrChar, 1, col)
	fails(t, full+"007", api.ErrNumber, 1, col)
	fails(t, full+long, api.ErrLong, 1, col)
	fails(t, full[:20]+"\" "+full[:len(full)-10], api.ErrChar, 1, 21)
	fails(t, full[:20]+"00 "+full[:len(full)-10], api.ErrNumber, 1, 21)
	fails(t, "\""+strings.Repeat(" ", api.MaxSource), api.ErrLong, 1, 1)
	fails(t, "00"+strings.Repeat(" ", api.MaxSource), api.ErrLong, 1, 1)
}

// P2.2

func TestOne(t *testing.T) {
	for _, want := range []api.Token{
		token(api.WName, "a", 1, 1), token(api.WName, "_x'", 1, 1), token(api.WName, strings.Repeat("n", api.MaxName), 1, 1),
		token(api.WCon, "C", 1, 1), token(api.WCon, strings.Repeat("N", api.MaxName), 1, 1),
		token(api.WOp, "+", 1, 1), token(api.WOp, "-", 1, 1), token(api.WOp, "+--", 1, 1), token(api.WOp, "==", 1, 1), token(api.WOp, strings.Repeat("<", api.MaxName), 1, 1),
		whole("0", 0, 1, 1), whole("12", 12, 1, 1), whole("9223372036854775807", math.MaxInt64, 1, 1), whole("9223372036854775808", math.MinInt64, 1, 1),
		token(api.WMark, "(", 1, 1), token(api.WMark, "\\", 1, 1), token(api.WMark, "_", 1, 1), token(api.WMark, "=", 1, 1), token(api.WMark, "|", 1, 1), token(api.WMark, "->", 1, 1),
		token(api.WWord, "let", 1, 1), token(api.WWord, "infixr", 1, 1),
	} {
		if w, ok := lex.One(want.Text); !ok || w != want {
			t.Errorf("One(%q): %v, %v", want.Text, w, ok)
		}
	}
}

func TestOneOfNone(t *testing.T) {
	for _, s := range []string{
		"", " ", "\n", "--", "---", "--a", "a ", " a", "a\n", "\na", "a--", "a --", "--\na", "a b", "a+", "+a", "1a", "((", "()", "-1", "1 ", "1--", "+ ", "(--",
		"\"", "'", "'a", "[", ",", "`", "\t", "a\t", "\xff", "a\xff", "\u00e4", "\x00", "a\x00",
		"007", "00", "9223372036854775809", "99999999999999999999", "-9223372036854775808",
		strings.Repeat("a", api.MaxName+1), strings.Repeat("A", api.MaxName+1), strings.Repeat("+", api.MaxName+1), strings.Repeat("1", api.MaxName+1),
		strings.Repeat("a", api.MaxSource+1), strings.Repeat(";", api.MaxTokens+1), "a" + strings.Repeat(" ", api.MaxSource), strings.Repeat(" ", api.MaxSource),
	} {
		if w, ok := lex.One(s); ok || w != (api.Token{}) {
			t.Errorf("One(%.40q): %v, %v", s, w, ok)
		}
	}
}

func TestWord(t *testing.T) {
	for _, s := range keywords() {
		if !lex.Word(s) {
			t.Errorf("Word(%q): false", s)
		}
		for _, no := range []string{s + " ", " " + s, s + "x", s[1:], s[:len(s)-1] + "_", strings.ToUpper(s), strings.ToUpper(s[:1]) + s[1:], s + "\n", s + "\x00"} {
			if lex.Word(no) {
				t.Errorf("Word(%q): true", no)
			}
		}
	}
	for _, s := range []string{"", "_", "=", "|", "->", "a", "where", "type", "module", "infixn", "do", "fi", "True", "+", "1", strings.Repeat("let", 1<<12)} {
		if lex.Word(s) {
			t.Errorf("Word(%.40q): true", s)
		}
	}
}

// Two answers share nothing, and what is handed out may be written to.
func TestTokensAreNewMemory(t *testing.T) {
	src := "f x = x + 1"
	a, _ := lex.Tokens(src)
	b, _ := lex.Tokens(src)
	want := slices.Clone(b)
	for i := range a {
		a[i] = api.Token{Kind: 99}
	}
	c, _ := lex.Tokens(src)
	if !slices.Equal(b, want) || !slices.Equal(c, want) {
		t.Error(fmt.Sprint("two answers share memory: ", b, c))
	}
}
