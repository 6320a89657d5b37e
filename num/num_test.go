package num_test

import (
	"math"
	"math/big"
	"slices"
	"strings"
	"testing"

	"changeling/api"
	"changeling/num"
)

const (
	least    = int64(math.MinInt64)
	greatest = int64(math.MaxInt64)
)

// texts are the operators' texts by their numbers, as the chapter tells them.
var texts = []string{"", "+", "-", "*", "/", "%", "==", "/=", "<", "<=", ">", ">="}

// noOps are numbers of no operator.
var noOps = []int{0, -1, 12, 13, -12, 255, 257, 1 << 32, 1<<32 + 1, -1 << 63, 1<<63 - 1}

// numbers are ordinary ones and those at the edges: all powers of 2 and of 10 with what lies beside them.
func numbers() []int64 {
	l := []int64{least, least + 1, greatest, greatest - 1}
	for i := int64(-13); i <= 13; i++ {
		l = append(l, i)
	}
	for i := 4; i < 63; i += 3 {
		p := int64(1) << i
		l = append(l, p-1, p, p+1, -p-1, -p, -p+1)
	}
	for p := int64(100); p <= greatest/10; p *= 10 {
		l = append(l, p-1, p, -p, -p+1)
	}
	return l
}

// do is Do where it must not fail.
func do(t *testing.T, op int, a, b int64) int64 {
	t.Helper()
	n, e := num.Do(op, a, b)
	if e != api.OK {
		t.Fatalf("Do(%d, %d, %d): error %d", op, a, b, e)
	}
	return n
}

// P1.1

func TestName(t *testing.T) {
	for op := 1; op < len(texts); op++ {
		if s := num.Name(op); s != texts[op] {
			t.Errorf("Name(%d): %q, not %q", op, s, texts[op])
		}
	}
	for _, op := range noOps {
		if s := num.Name(op); s != "" {
			t.Errorf("Name(%d): %q, not empty", op, s)
		}
	}
}

func TestOp(t *testing.T) {
	for op := 1; op < len(texts); op++ {
		if n := num.Op(texts[op]); n != op {
			t.Errorf("Op(%q): %d, not %d", texts[op], n, op)
		}
	}
	for _, s := range []string{"", " ", "=", "!", "!=", "=<", "=>", "<>", "===", "/==", "++", "--", "+ ", " +", "+\x00", "x", "->", "|", "**", "//", "%%", "<<", ">>", "<=>", "&", "1", "\xff", strings.Repeat("+", 1<<16)} {
		if n := num.Op(s); n != 0 {
			t.Errorf("Op(%.20q): %d, not 0", s, n)
		}
	}
}

func TestRel(t *testing.T) {
	for op := 1; op < len(texts); op++ {
		if num.Rel(op) != (op > 5) {
			t.Errorf("Rel(%d): %v", op, num.Rel(op))
		}
	}
	for _, op := range noOps {
		if num.Rel(op) {
			t.Errorf("Rel(%d): true", op)
		}
	}
}

func TestOthers(t *testing.T) {
	want := [][]int{
		1: {2, 3, 4, 5}, 2: {1, 3, 4, 5}, 3: {1, 2, 4, 5}, 4: {1, 2, 3, 5}, 5: {1, 2, 3, 4},
		6: {7, 8, 9, 10, 11}, 7: {6, 8, 9, 10, 11}, 8: {6, 7, 9, 10, 11}, 9: {6, 7, 8, 10, 11}, 10: {6, 7, 8, 9, 11}, 11: {6, 7, 8, 9, 10},
	}
	for op := 1; op < len(want); op++ {
		if l := num.Others(op); !slices.Equal(l, want[op]) {
			t.Errorf("Others(%d): %v, not %v", op, l, want[op])
		}
	}
	for _, op := range noOps {
		if l := num.Others(op); len(l) != 0 {
			t.Errorf("Others(%d): %v, not none", op, l)
		}
	}
}

func TestOthersIsNewMemory(t *testing.T) {
	for op := 1; op < len(texts); op++ {
		a, b := num.Others(op), num.Others(op)
		want := slices.Clone(b)
		for i := range a {
			a[i] = 99
		}
		_ = append(a, 99)
		if !slices.Equal(b, want) || !slices.Equal(num.Others(op), want) {
			t.Errorf("Others(%d): two answers share memory", op)
		}
	}
}

// P1.2

func TestDoTold(t *testing.T) {
	for _, c := range []struct {
		op         int
		a, b, want int64
	}{
		{1, 2, 3, 5}, {2, 2, 3, -1}, {3, -2, 3, -6},
		{4, 7, 2, 3}, {4, -7, 2, -3}, {4, 7, -2, -3}, {4, -7, -2, 3},
		{5, 7, 2, 1}, {5, -7, 2, -1}, {5, 7, -2, 1}, {5, -7, -2, -1},
		{5, 6, 2, 0}, {5, -6, 2, 0}, {4, 0, -5, 0}, {5, 0, -5, 0}, {4, 1, 2, 0}, {5, 1, 2, 1},
		{1, greatest, 1, least}, {2, least, 1, greatest}, {1, least, least, 0}, {2, 0, least, least},
		{3, greatest, greatest, 1}, {3, least, -1, least}, {3, least, least, 0}, {3, 1 << 32, 1 << 31, least}, {3, 1 << 32, 1 << 32, 0},
		{4, least, -1, least}, {5, least, -1, 0}, {4, least, 1, least}, {5, least, 1, 0}, {4, greatest, -1, -greatest}, {5, greatest, -1, 0},
		{4, least, greatest, -1}, {5, least, greatest, -1}, {4, greatest, least, 0}, {5, greatest, least, greatest},
		{6, 3, 3, 1}, {6, 3, 4, 0}, {7, 3, 3, 0}, {7, 3, 4, 1},
		{8, 3, 4, 1}, {8, 3, 3, 0}, {8, 4, 3, 0}, {9, 3, 4, 1}, {9, 3, 3, 1}, {9, 4, 3, 0},
		{10, 3, 4, 0}, {10, 3, 3, 0}, {10, 4, 3, 1}, {11, 3, 4, 0}, {11, 3, 3, 1}, {11, 4, 3, 1},
		{8, least, greatest, 1}, {8, greatest, least, 0}, {10, greatest, least, 1}, {9, least, greatest, 1}, {11, least, greatest, 0}, {8, -1, 0, 1},
		{6, 0, 0, 1}, {8, 0, 0, 0}, {11, 0, 0, 1}, {7, 5, 0, 1},
	} {
		if n, e := num.Do(c.op, c.a, c.b); n != c.want || e != api.OK {
			t.Errorf("Do(%d, %d, %d): %d, %d, not %d, 0", c.op, c.a, c.b, n, e, c.want)
		}
	}
}

func TestDoByZero(t *testing.T) {
	for _, a := range numbers() {
		for _, op := range []int{4, 5} {
			if n, e := num.Do(op, a, 0); n != 0 || e != api.ErrZero {
				t.Errorf("Do(%d, %d, 0): %d, %d", op, a, n, e)
			}
		}
		if n, e := num.Do(3, a, 0); n != 0 || e != api.OK {
			t.Errorf("Do(3, %d, 0): %d, %d", a, n, e)
		}
	}
}

func TestDoOfNone(t *testing.T) {
	for _, op := range noOps {
		for _, b := range []int64{0, 1, -1, least, greatest} {
			if n, e := num.Do(op, 7, b); n != 0 || e != api.ErrArg {
				t.Errorf("Do(%d, 7, %d): %d, %d", op, b, n, e)
			}
		}
	}
}

// wrapped is a number of any length, in 64 bits of two's complement.
func wrapped(n *big.Int) int64 {
	low := new(big.Int).And(n, new(big.Int).SetUint64(math.MaxUint64))
	return int64(low.Uint64())
}

func TestDoAsOfAnyLength(t *testing.T) {
	for _, a := range numbers() {
		for _, b := range numbers() {
			x, y := big.NewInt(a), big.NewInt(b)
			want := map[int]int64{
				1: wrapped(new(big.Int).Add(x, y)),
				2: wrapped(new(big.Int).Sub(x, y)),
				3: wrapped(new(big.Int).Mul(x, y)),
			}
			if b != 0 {
				want[4] = wrapped(new(big.Int).Quo(x, y))
				want[5] = wrapped(new(big.Int).Rem(x, y))
			}
			c := x.Cmp(y)
			for op, holds := range map[int]bool{6: c == 0, 7: c != 0, 8: c < 0, 9: c <= 0, 10: c > 0, 11: c >= 0} {
				want[op] = 0
				if holds {
					want[op] = 1
				}
			}
			for op, w := range want {
				if n := do(t, op, a, b); n != w {
					t.Fatalf("Do(%d, %d, %d): %d, not %d", op, a, b, n, w)
				}
			}
		}
	}
}

// P1.3

func TestText(t *testing.T) {
	for n, want := range map[int64]string{
		0: "0", 7: "7", -7: "-7", 10: "10", -10: "-10", 100: "100", 1234567890: "1234567890",
		greatest: "9223372036854775807", least: "-9223372036854775808", least + 1: "-9223372036854775807",
	} {
		if s := num.Text(n); s != want {
			t.Errorf("Text(%d): %q, not %q", n, s, want)
		}
	}
	for _, n := range numbers() {
		if s, want := num.Text(n), big.NewInt(n).String(); s != want {
			t.Errorf("Text: %q, not %q", s, want)
		}
	}
}

func TestParse(t *testing.T) {
	for s, want := range map[string]int64{
		"0": 0, "7": 7, "-7": -7, "10": 10, "-10": -10, "100": 100, "-100": -100, "1234567890": 1234567890,
		"9223372036854775807": greatest, "9223372036854775806": greatest - 1, "9223372036854775799": greatest - 8,
		"-9223372036854775808": least, "-9223372036854775807": least + 1, "1000000000000000000": 1e18, "-1000000000000000000": -1e18,
	} {
		if n, e := num.Parse(s); n != want || e != api.OK {
			t.Errorf("Parse(%q): %d, %d, not %d, 0", s, n, e, want)
		}
	}
}

func TestParseOfNone(t *testing.T) {
	for _, s := range []string{
		"", "-", "--", "--1", "-0", "00", "007", "-007", "01", "-01", "0-", "-00", "+0", "+1", "+", "1-", "1-1", "-1-", "1+1",
		" 1", "1 ", "1 2", "\n1", "1\n", "- 1", " ", "\t", "1\x00", "\x00", "a", "1a", "a1", "0x1", "0b1", "0o1", "1e3", "1_0", "1.0", ".5", "1,0", "(1)",
		"/", ":", "1/", "1:", "-/", "-:", "\xff", "1\xff", "\u0661", "\uff11", "\u22121",
		"9223372036854775808", "9223372036854775809", "9223372036854775810", "9223372036854775900", "9999999999999999999", "10000000000000000000",
		"-9223372036854775809", "-9223372036854775810", "-9223372036854775900", "-9999999999999999999", "-10000000000000000000",
		"18446744073709551615", "18446744073709551616", "18446744073709551617", "-18446744073709551616", "36893488147419103232",
		"00000000000000000000000000000001", "09223372036854775807", "-09223372036854775808",
		strings.Repeat("9", 1<<16), strings.Repeat("0", 1<<16), "-" + strings.Repeat("1", 1<<16), strings.Repeat("-", 1<<16),
		"340282366920938463463374607431768211456", "340282366920938463463374607431768211457",
	} {
		if n, e := num.Parse(s); n != 0 || e != api.ErrNumber {
			t.Errorf("Parse(%.40q): %d, %d, not 0, ErrNumber", s, n, e)
		}
	}
}

// Each text of up to four of these bytes is a number's, or none.
func TestParseOfAllShort(t *testing.T) {
	known := map[string]int64{}
	for n := int64(-999); n <= 9999; n++ {
		known[big.NewInt(n).String()] = n
	}
	var grow func(s string)
	grow = func(s string) {
		n, e := num.Parse(s)
		want, is := known[s]
		if is && (n != want || e != api.OK) || !is && (n != 0 || e != api.ErrNumber) {
			t.Errorf("Parse(%q): %d, %d", s, n, e)
		}
		if len(s) == 4 {
			return
		}
		for _, c := range []byte("-+ 012589/:a") {
			grow(s + string(c))
		}
	}
	grow("")
}

// P1.4

func TestParseOfText(t *testing.T) {
	seen := map[string]int64{}
	for _, n := range numbers() {
		s := num.Text(n)
		if m, e := num.Parse(s); m != n || e != api.OK {
			t.Errorf("Parse(Text(%d)): %d, %d", n, m, e)
		}
		if m, ok := seen[s]; ok && m != n {
			t.Errorf("%d and %d have the text %q", m, n, s)
		}
		seen[s] = n
	}
}

// P1.5

func TestSumsAndProducts(t *testing.T) {
	l := numbers()
	for _, a := range l {
		for i, b := range l {
			if n := do(t, 1, do(t, 2, a, b), b); n != a {
				t.Fatalf("%d less %d, and that, is %d", a, b, n)
			}
			c := l[(i*7+3)%len(l)]
			if one, two := do(t, 3, a, do(t, 1, b, c)), do(t, 1, do(t, 3, a, b), do(t, 3, a, c)); one != two {
				t.Fatalf("%d times %d and %d: %d, %d", a, b, c, one, two)
			}
		}
	}
}

// P1.6

// size is a number without its sign: that of the least one has no room in an int64.
func size(n int64) uint64 {
	if n < 0 {
		return -uint64(n)
	}
	return uint64(n)
}

func TestDivision(t *testing.T) {
	for _, a := range numbers() {
		for _, b := range numbers() {
			if b == 0 {
				continue
			}
			q, r := do(t, 4, a, b), do(t, 5, a, b)
			if n := do(t, 1, do(t, 3, q, b), r); n != a {
				t.Fatalf("%d / %d times %d, and %d: %d", a, b, b, r, n)
			}
			if size(r) >= size(b) || r != 0 && (r < 0) != (a < 0) {
				t.Fatalf("%d %% %d: %d", a, b, r)
			}
		}
	}
}

// P1.7

func TestRelations(t *testing.T) {
	for _, a := range numbers() {
		for _, b := range numbers() {
			less, more, same := do(t, 8, a, b), do(t, 8, b, a), do(t, 6, a, b)
			if less+more+same != 1 {
				t.Fatalf("%d and %d: %d, %d, %d", a, b, less, more, same)
			}
			for op, want := range map[int]int64{7: 1 - same, 9: less + same, 10: more, 11: more + same} {
				if n := do(t, op, a, b); n != want {
					t.Fatalf("Do(%d, %d, %d): %d, not %d", op, a, b, n, want)
				}
			}
		}
	}
}
