// Package num is layer 1: numbers in decimal digits, and numbers that stop at a top.
package num

import (
	"strconv"

	"doublet/api"
)

// Show: the digits of n, without a 0 ahead of others; "" of n below 0.
func Show(n int) string {
	if n < 0 {
		return ""
	}
	return strconv.Itoa(n)
}

// Read: the number whose digits s is, most at most.
func Read(s string, most int) (int, api.Errno) {
	if !wellFormed(s) {
		return 0, api.ErrForm
	}
	n, ok := value(s, most)
	if !ok {
		return 0, api.ErrRange
	}
	return n, api.OK
}

// Take: the number whose digits stand in b from at on, as many as there are, and the place behind them.
func Take(b []byte, at, most int) (int, int, api.Errno) {
	if at < 0 || at > len(b) {
		return 0, 0, api.ErrArg
	}
	end := at
	for end < len(b) && isDigit(b[end]) {
		end++
	}
	n, err := Read(string(b[at:end]), most)
	if err != api.OK {
		return 0, 0, err
	}
	return n, end, api.OK
}

// Add: the sum of l, numbers below 0 being 0; top, if that is above top; 0 with a top below 0.
func Add(top int, l ...int) int {
	return gather(top, 0, l, func(a, b int) int {
		// Held against what is left below top, for a sum itself may pass the greatest int.
		if b > top-a {
			return top
		}
		return a + b
	})
}

// Mul: the product of l, numbers below 0 being 0; top, if that is above top; 0 with a top below 0.
func Mul(top int, l ...int) int {
	return gather(top, 1, l, func(a, b int) int {
		// Divided first, for a product itself may pass the greatest int.
		if b > 0 && a > top/b {
			return top
		}
		return a * b
	})
}

// gather puts the numbers of l, one by one, to what there is at first.
// two is only ever asked of a number from 0 to top, and of one that is not below 0.
// What stopped at top goes on as top: only a 0 can bring a product below it again, as it truly would.
func gather(top, first int, l []int, two func(a, b int) int) int {
	if top < 0 {
		return 0
	}
	all := min(first, top)
	for _, n := range l {
		all = two(all, max(n, 0))
	}
	return all
}

// wellFormed: is s one digit or more, without a 0 ahead of others?
func wellFormed(s string) bool {
	if s == "" || len(s) > 1 && s[0] == '0' {
		return false
	}
	for i := range len(s) {
		if !isDigit(s[i]) {
			return false
		}
	}
	return true
}

// value: the number of digits that are well formed; not ok, if it is above most.
func value(s string, most int) (n int, ok bool) {
	if most < 0 {
		return 0, false
	}
	for i := range len(s) {
		d := int(s[i] - '0')
		// Asked in two steps, and ahead of the sum, so that nothing here can pass the greatest int.
		if n > most/10 || 10*n > most-d {
			return 0, false
		}
		n = 10*n + d
	}
	return n, true
}

func isDigit(c byte) bool { return '0' <= c && c <= '9' }
