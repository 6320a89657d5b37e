// Package num is layer 1: see shared/doc/01-num.md.
package num

import (
	"math"
	"strconv"
	"strings"

	"changeling/api"
)

// The operators' numbers are the document's: they count from 1 on, so that 0 is none.
const (
	none = iota
	plus
	minus
	times
	over
	rest
	same
	unlike
	less
	atMost
	more
	atLeast
)

var names = [...]string{
	plus:    "+",
	minus:   "-",
	times:   "*",
	over:    "/",
	rest:    "%",
	same:    "==",
	unlike:  "/=",
	less:    "<",
	atMost:  "<=",
	more:    ">",
	atLeast: ">=",
}

// Name is an operator's text.
func Name(op int) string {
	if !known(op) {
		return ""
	}
	return names[op]
}

// Op is the operator whose text this is; 0: none.
func Op(name string) int {
	switch name {
	case "+":
		return plus
	case "-":
		return minus
	case "*":
		return times
	case "/":
		return over
	case "%":
		return rest
	case "==":
		return same
	case "/=":
		return unlike
	case "<":
		return less
	case "<=":
		return atMost
	case ">":
		return more
	case ">=":
		return atLeast
	}
	return none
}

// Rel tells whether an operator is a relation.
func Rel(op int) bool {
	return same <= op && op <= atLeast
}

// Others are the other operators of its kind.
func Others(op int) []int {
	if !known(op) {
		return nil
	}
	first, last := plus, rest
	if Rel(op) {
		first, last = same, atLeast
	}
	var l []int
	for other := first; other <= last; other++ {
		if other != op {
			l = append(l, other)
		}
	}
	return l
}

// Do does an operator.
func Do(op int, a, b int64) (int64, api.Errno) {
	switch {
	case !known(op):
		return 0, api.ErrArg
	case b == 0 && (op == over || op == rest):
		return 0, api.ErrZero
	case !Rel(op):
		return reckon(op, a, b), api.OK
	case holds(op, a, b):
		return 1, api.OK
	}
	return 0, api.OK
}

// Text is a number's text.
func Text(n int64) string {
	return strconv.FormatInt(n, 10)
}

// Parse is the number whose text this is.
func Parse(s string) (int64, api.Errno) {
	digits := strings.TrimPrefix(s, "-")
	if digits == "" || digits[0] == '0' && s != "0" {
		return 0, api.ErrNumber
	}
	// It is reckoned below 0, since the least number has no counterpart above.
	n, i := int64(0), 0
look:
	for ; i < len(digits); i++ {
		d := int64(digits[i]) - '0'
		switch {
		case d < 0, d > 9, n < (math.MinInt64+d)/10:
			break look
		}
		n = 10*n - d
	}
	below := len(digits) < len(s)
	if i < len(digits) || n == math.MinInt64 && !below {
		return 0, api.ErrNumber
	}
	if below {
		return n, api.OK
	}
	return -n, api.OK
}

func known(op int) bool {
	return plus <= op && op <= atLeast
}

// reckon does an arithmetic operator; b is not 0 where op divides.
func reckon(op int, a, b int64) int64 {
	switch op {
	case plus:
		return a + b
	case minus:
		return a - b
	case times:
		return a * b
	case over:
		return a / b
	}
	return a % b
}

// holds tells whether a relation holds.
func holds(op int, a, b int64) bool {
	switch op {
	case same:
		return a == b
	case unlike:
		return a != b
	case less:
		return a < b
	case atMost:
		return a <= b
	case more:
		return a > b
	}
	return a >= b
}
