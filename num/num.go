// Package num is layer 1: numbers as digits: see shared/doc/01-num.md.
package num

import (
	"strings"

	"stint/api"
)

const (
	// mostDigits is how many digits MaxTime has, and so any number at most.
	mostDigits = 16
	// mostWide is what a greater width counts as.
	mostWide = 40
)

// Put is a number's digits.
func Put(n int) (string, api.Errno) {
	if n < 0 || n > api.MaxTime {
		return "", api.ErrRange
	}
	return digits(n), api.OK
}

// Get is the number whose digits they are.
func Get(s string) (int, api.Errno) {
	if !areDigits(s) {
		return 0, api.ErrText
	}
	n, rest := Upto(s)
	if rest != "" {
		// Of digits alone, only what is above MaxTime leaves some.
		return 0, api.ErrRange
	}
	return n, api.OK
}

// Pad is a number's digits with blanks ahead; of no number it is ? with blanks ahead.
func Pad(n, wide int) string {
	s, e := Put(n)
	if e != api.OK {
		s = "?"
	}
	// The least int less a length would run over: so wide is brought to 0 ahead of that.
	wide = min(max(wide, 0), mostWide)
	return strings.Repeat(" ", max(wide-len(s), 0)) + s
}

// Upto is the number that a text begins with, and what is left.
func Upto(s string) (n int, rest string) {
	at := 0
	for at < len(s) && isDigit(s[at]) {
		next := n*10 + int(s[at]-'0')
		if next > api.MaxTime {
			break
		}
		n = next
		at++
		if n == 0 {
			// A 0 stands alone: what is behind it is no part of the number.
			break
		}
	}
	return n, s[at:]
}

// digits is the digits of what is known to be a number.
func digits(n int) string {
	var d [mostDigits]byte
	at := len(d) - 1
	d[at] = digit(n)
	for n /= 10; n > 0; n /= 10 {
		at--
		d[at] = digit(n)
	}
	return string(d[at:])
}

// digit is a number's last digit.
func digit(n int) byte {
	return '0' + byte(n%10)
}

// areDigits tells whether a text is digits, one at least, without a 0 ahead of others.
func areDigits(s string) bool {
	if s == "" || len(s) > 1 && s[0] == '0' {
		return false
	}
	for at := range len(s) {
		if !isDigit(s[at]) {
			return false
		}
	}
	return true
}

// isDigit tells whether a byte is 0 to 9.
func isDigit(b byte) bool {
	return '0' <= b && b <= '9'
}
