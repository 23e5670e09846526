package num_test

import (
	"bytes"
	"math"
	"math/big"
	"strings"
	"testing"

	"damier/num"
)

// number tells by the words, without bounds on the way, of which number s is a text.
func number(s string) (int, bool) {
	digits := strings.TrimPrefix(s, "-")
	if digits == s {
		digits = strings.TrimPrefix(s, "+")
	}
	if digits == "" || strings.Trim(digits, "0123456789") != "" {
		return 0, false
	}
	n, _ := new(big.Int).SetString(digits, 10)
	if s[0] == '-' {
		n.Neg(n)
	}
	if !n.IsInt64() {
		return 0, false
	}
	return int(n.Int64()), true
}

// eachText hands over every text of the bytes of some, up to a length.
func eachText(some string, most int, f func(s string)) {
	var grow func(s string)
	grow = func(s string) {
		f(s)
		for i := 0; i < len(some) && len(s) < most; i++ {
			grow(s + some[i:i+1])
		}
	}
	grow("")
}

// near are texts of numbers by 2^63, and others that are nearly texts of numbers.
func near() []string {
	l := []string{"", "+", "-", "--1", "+-1", "1-", " 1", "1 ", "1_0", "0x1", "1e3", "1.0", "\xD9\xA1", "1\x00", "/", ":", "+:", "9a", strings.Repeat("9", 400), "-" + strings.Repeat("9", 400), strings.Repeat("0", 400) + "7", "-" + strings.Repeat("0", 400)}
	for _, base := range []*big.Int{big.NewInt(math.MaxInt64), big.NewInt(math.MinInt64), big.NewInt(math.MaxInt64 / 10), big.NewInt(math.MinInt64 / 10), new(big.Int).Lsh(big.NewInt(1), 64), big.NewInt(0)} {
		for k := int64(-25); k <= 25; k++ {
			s := new(big.Int).Add(base, big.NewInt(k)).String()
			zeros := strings.Replace(s, "-", "-000", 1)
			if zeros == s {
				zeros = "+000" + s
			}
			l = append(l, s, zeros, s+"0", s+"9")
		}
	}
	return l
}

func checkParse(t *testing.T, s string) {
	t.Helper()
	want, is := number(s)
	if n, ok := num.Parse([]byte(s)); n != want || ok != is {
		t.Fatalf("%q: %d %v", s, n, ok)
	}
}

func TestP2_1Parse(t *testing.T) {
	for s, want := range map[string]int{"0": 0, "-0": 0, "+0": 0, "7": 7, "007": 7, "+5": 5, "-12": -12, "9223372036854775807": math.MaxInt64, "-9223372036854775808": math.MinInt64} {
		if n, ok := num.Parse([]byte(s)); !ok || n != want {
			t.Errorf("%q: %d %v", s, n, ok)
		}
	}
	for _, s := range []string{"", "-", "+", "9223372036854775808", "-9223372036854775809", "18446744073709551616", "18446744073709551617", "1x", "x1", "1 "} {
		if n, ok := num.Parse([]byte(s)); ok || n != 0 {
			t.Errorf("%q: %d %v", s, n, ok)
		}
	}
	if n, ok := num.Parse(nil); ok || n != 0 {
		t.Error("nil", n, ok)
	}
	for _, s := range near() {
		checkParse(t, s)
	}
	for c := range 256 {
		checkParse(t, string([]byte{byte(c)}))
		checkParse(t, string([]byte{byte(c), '1'}))
		checkParse(t, string([]byte{'1', byte(c)}))
	}
	eachText("+-019/: ", 5, func(s string) { checkParse(t, s) })
}

func TestP2_1Text(t *testing.T) {
	for n, want := range map[int]string{0: "0", 7: "7", 10: "10", -1: "-1", -120: "-120", math.MaxInt64: "9223372036854775807", math.MinInt64: "-9223372036854775808"} {
		if s := num.Text(n); s != want {
			t.Errorf("%d: %q", n, s)
		}
	}
}

// stand tells by the words how two texts stand.
func stand(a, b string) int {
	n, isA := number(a)
	m, isB := number(b)
	switch {
	case isA && isB:
		return big.NewInt(int64(n)).Cmp(big.NewInt(int64(m)))
	case isA:
		return -1
	case isB:
		return 1
	}
	return strings.Compare(a, b)
}

func checkCompare(t *testing.T, a, b string) {
	t.Helper()
	want := stand(a, b)
	if c := num.Compare([]byte(a), []byte(b)); c != want {
		t.Fatalf("%q, %q: %d", a, b, c)
	}
	least := a
	if want > 0 {
		least = b
	}
	if l := num.Least([]byte(a), []byte(b)); string(l) != least {
		t.Fatalf("%q, %q: least %q", a, b, l)
	}
}

func TestP2_2CompareAndLeast(t *testing.T) {
	row := []string{"-9223372036854775808", "-10", "-9", "-00", "007", "9", "10", "9223372036854775807", "", "+", "-", "-9223372036854775809", "9223372036854775808", "a", "a\x00", "ab", "b", "\x80", "\xFF", "\xFFa"}
	for i, a := range row {
		for k, b := range row {
			want := 0
			if i < k {
				want = -1
			} else if i > k {
				want = 1
			}
			if c := num.Compare([]byte(a), []byte(b)); c != want {
				t.Errorf("%q, %q: %d", a, b, c)
			}
			checkCompare(t, a, b)
		}
	}
	for _, x := range [][2]string{{"7", "007"}, {"-0", "+0"}, {"+1", "1"}} {
		if num.Compare([]byte(x[0]), []byte(x[1])) != 0 || string(num.Least([]byte(x[0]), []byte(x[1]))) != x[0] {
			t.Error("alike", x)
		}
	}
	var l []string
	eachText("-19a", 3, func(s string) { l = append(l, s) })
	for _, a := range append(l, near()...) {
		for _, b := range l {
			checkCompare(t, a, b)
			checkCompare(t, b, a)
		}
	}
}

func TestP2_2LeastHasMemoryOfItsOwn(t *testing.T) {
	for _, x := range [][2]string{{"1", "2"}, {"2", "1"}, {"ab", "ab"}, {"", "a"}} {
		a, b := []byte(x[0] + "......")[:len(x[0])], []byte(x[1] + "......")[:len(x[1])]
		l := num.Least(a, b)
		for i := range l {
			l[i] = '#'
		}
		_ = append(l, '#')
		if string(a[:len(a)+1]) != x[0]+"." || string(b[:len(b)+1]) != x[1]+"." {
			t.Errorf("%q: %q %q", x, a, b)
		}
	}
}

func TestP2_3Digits(t *testing.T) {
	for _, x := range []struct {
		s            string
		most, n, len int
	}{
		{"", 9, 0, 0}, {"x1", 9, 0, 0}, {"-1", 9, 0, 0}, {"+1", 9, 0, 0}, {" 1", 9, 0, 0},
		{"0", 9, 0, 1}, {"12x3", 99, 12, 2}, {"0123x", 99, 99, 4}, {"0099", 99, 99, 4}, {"100", 99, 99, 3}, {"000", 99, 0, 3},
		{"5", 0, 0, 1}, {"5", -1, 0, 1}, {"12", math.MinInt, 0, 2}, {"3\xC3", 9, 3, 1}, {"9:", 9, 9, 1}, {"9/", 9, 9, 1},
		{"2147483647", math.MaxInt, math.MaxInt32, 10}, {"2147483648", math.MaxInt, math.MaxInt32, 10}, {"2147483646", math.MaxInt, math.MaxInt32 - 1, 10},
		{"2147483648", math.MaxInt32 + 1, math.MaxInt32, 10}, {"4294967296", math.MaxInt, math.MaxInt32, 10},
		{strings.Repeat("9", 500) + "a", 9999, 9999, 500}, {strings.Repeat("9", 500), math.MaxInt, math.MaxInt32, 500},
		{strings.Repeat("0", 500) + "42", 9999, 42, 502}, {"1" + strings.Repeat("0", 64), 7, 7, 65},
	} {
		if n, l := num.Digits(x.s, x.most); n != x.n || l != x.len {
			t.Errorf("%q, %d: %d %d", x.s, x.most, n, l)
		}
	}
	eachText("019a", 5, func(s string) {
		digits := len(s) - len(strings.TrimLeft(s, "0123456789"))
		whole, _ := number(s[:digits])
		for _, most := range []int{0, 1, 10, 99, 1000} {
			if n, l := num.Digits(s, most); n != min(whole, most) || l != digits {
				t.Fatalf("%q, %d: %d %d", s, most, n, l)
			}
		}
	})
}

func TestP2_4TextsStandInARow(t *testing.T) {
	l := []string{"", "+", "-", "0", "-0", "00", "7", "007", "10", "9", "-1", "9223372036854775807", "9223372036854775808", "-9223372036854775808", "-9223372036854775809", "a", "aa", "b", "1a", "a1", " 1", "\x00", "\xFF"}
	at := func(i, k int) int { return num.Compare([]byte(l[i]), []byte(l[k])) }
	for i := range l {
		for k := range l {
			if at(i, k) != -at(k, i) {
				t.Errorf("%q, %q: %d, %d", l[i], l[k], at(i, k), at(k, i))
			}
			for m := range l {
				if at(i, k) >= 0 && at(k, m) >= 0 && (at(i, m) < 0 || at(i, m) == 0 && (at(i, k) > 0 || at(k, m) > 0)) {
					t.Errorf("%q, %q, %q", l[i], l[k], l[m])
				}
			}
		}
	}
}

func TestP2_4TextIsParsed(t *testing.T) {
	check := func(n int) {
		if m, ok := num.Parse([]byte(num.Text(n))); !ok || m != n {
			t.Fatalf("%d: %d %v", n, m, ok)
		}
	}
	for n := -2000; n <= 2000; n++ {
		check(n)
		check(math.MinInt64 + 2000 + n)
		check(math.MaxInt64 - 2000 + n)
	}
	for k := range 63 {
		check(1 << k)
		check(-1 << k)
	}
}

// No call panics, or changes what it was handed.
func TestP1Num(t *testing.T) {
	for _, s := range append(near(), "\xFF\x00") {
		a, b := []byte(s), []byte("10")
		num.Parse(a)
		num.Compare(a, b)
		num.Compare(nil, a)
		num.Least(a, b)
		num.Least(b, a)
		num.Least(nil, nil)
		for _, most := range []int{math.MinInt, -1, 0, 1, math.MaxInt32, math.MaxInt} {
			num.Digits(s, most)
			num.Text(most)
		}
		if string(a) != s || !bytes.Equal(b, []byte("10")) {
			t.Errorf("%q was changed: %q %q", s, a, b)
		}
	}
}
