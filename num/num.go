// Package num is layer 2: numbers of texts, and how texts stand. See shared/doc/02-num.md.
package num

import (
	"bytes"
	"cmp"
	"math"
	"strconv"
)

// Parse tells the number of which b is a text.
func Parse(b []byte) (int, bool) {
	digits, minus := sign(b)
	if len(digits) == 0 {
		return 0, false
	}
	// It is gathered below 0, as there is one number more than above.
	n := 0
	for i := range len(digits) {
		d, ok := digit(digits[i])
		if !ok || n < (math.MinInt64+d)/10 {
			return 0, false
		}
		n = n*10 - d
	}
	if minus {
		return n, true
	}
	if n == math.MinInt64 {
		return 0, false
	}
	return -n, true
}

// sign tells what stands behind the sign, if there is one, and whether that is a minus.
func sign(b []byte) ([]byte, bool) {
	if len(b) > 0 && (b[0] == '+' || b[0] == '-') {
		return b[1:], b[0] == '-'
	}
	return b, false
}

func digit(c byte) (int, bool) {
	if c < '0' || c > '9' {
		return 0, false
	}
	return int(c - '0'), true
}

// Text tells a number's digits.
func Text(n int) string {
	return strconv.Itoa(n)
}

// Compare tells how two texts stand: numbers ahead of all others.
func Compare(a, b []byte) int {
	n, aIs := Parse(a)
	m, bIs := Parse(b)
	switch {
	case aIs && bIs:
		return cmp.Compare(n, m)
	case aIs:
		return -1
	case bIs:
		return 1
	}
	return compareBytes(a, b)
}

func compareBytes(a, b []byte) int {
	stands := cmp.Compare(len(a), len(b))
unlike:
	for i := range min(len(a), len(b)) {
		switch {
		case a[i] < b[i]:
			stands = -1
			break unlike
		case a[i] > b[i]:
			stands = 1
			break unlike
		}
	}
	return stands
}

// Digits tells the number with which s begins, and how many digits it has.
func Digits(s string, most int) (int, int) {
	most = min(max(most, 0), math.MaxInt32)
	n := 0
	for i := range len(s) {
		d, ok := digit(s[i])
		if !ok {
			return n, i
		}
		// Held at each digit, so that no row of digits is too long; what is above most stays so.
		n = min(n*10+d, most)
	}
	return n, len(s)
}

// Least tells the one of two texts that stands ahead; the first one, if they stand alike.
func Least(a, b []byte) []byte {
	if Compare(a, b) > 0 {
		return bytes.Clone(b)
	}
	return bytes.Clone(a)
}
