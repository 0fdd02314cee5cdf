// Package numeral reads the numbers of queries: what the layers share that ask for them.
package numeral

import "tidewrack/letters"

// maxDigits is how many digits a number may have, on both sides of its point: so many a float of 64 bits keeps.
const maxDigits = 15

// Length is how many bytes the longest number has that a text begins with: 0, if it begins with none. A number is digits without a needless nought ahead, and perhaps a point and more of them.
func Length(s string) int {
	whole := digits(s, maxDigits)
	if whole > 0 && s[0] == '0' {
		whole = 1
	}
	if whole == 0 || whole == len(s) || s[whole] != '.' {
		return whole
	}
	part := digits(s[whole+1:], maxDigits-whole)
	if part == 0 {
		return whole
	}
	return whole + 1 + part
}

// Is asks whether a whole text is a number.
func Is(s string) bool {
	return s != "" && Length(s) == len(s)
}

// digits counts the digits that a text begins with, up to a bound.
func digits(s string, most int) int {
	n := 0
	for n < min(len(s), most) && letters.IsDigit(s[n]) {
		n++
	}
	return n
}
