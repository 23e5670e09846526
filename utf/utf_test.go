package utf_test

import (
	"bytes"
	"math"
	"testing"

	"damier/utf"
)

// edges are bytes at which the rules of UTF-8 change.
var edges = []byte{0x00, 'a', 0x7F, 0x80, 0x8F, 0x90, 0x9F, 0xA0, 0xBF, 0xC0, 0xC1, 0xC2, 0xDF, 0xE0, 0xE1, 0xEC, 0xED, 0xEE, 0xEF, 0xF0, 0xF3, 0xF4, 0xF5, 0xFF}

// few are enough of them for longer texts.
var few = []byte{'a', 0x80, 0x90, 0xA0, 0xC3, 0xE2, 0xED, 0xF0, 0xF4}

// places are numbers that are no places of short texts, or hardly so.
var places = []int{math.MinInt, math.MinInt + 1, math.MinInt32, -5, -4, -3, -2, -1, 20, math.MaxInt32, math.MaxInt - 3, math.MaxInt - 1, math.MaxInt}

// eachText hands over every text of the bytes of some, up to a length.
func eachText(some []byte, most int, f func(b []byte)) {
	var grow func(b []byte)
	grow = func(b []byte) {
		f(b)
		if len(b) == most {
			return
		}
		for _, c := range some {
			grow(append(b[:len(b):len(b)], c))
		}
	}
	grow(nil)
}

// character tells size and number by the bits of UTF-8, without the library.
func character(b []byte, at int) (int, int) {
	if at < 0 || at >= len(b) {
		return 0, -1
	}
	forms := []struct{ mask, lead, from, to int }{
		{0x80, 0x00, 0, 0x7F},
		{0xE0, 0xC0, 0x80, 0x7FF},
		{0xF0, 0xE0, 0x800, 0xFFFF},
		{0xF8, 0xF0, 0x10000, 0x10FFFF},
	}
	for i, f := range forms {
		if int(b[at])&f.mask != f.lead || at+i >= len(b) {
			continue
		}
		n, right := int(b[at])&^f.mask, true
		for _, c := range b[at+1 : at+1+i] {
			n, right = n<<6|int(c&0x3F), right && c&0xC0 == 0x80
		}
		if right && n >= f.from && n <= f.to && (n < 0xD800 || n > 0xDFFF) {
			return i + 1, n
		}
	}
	return 1, -1
}

// boundaries tells all of them, character by character from the place 0 on.
func boundaries(b []byte) []int {
	l := []int{0}
	for at := 0; at < len(b); {
		n, _ := character(b, at)
		at += n
		l = append(l, at)
	}
	return l
}

func allPlaces(b []byte) []int {
	l := append([]int(nil), places...)
	for at := range len(b) + 3 {
		l = append(l, at)
	}
	return l
}

func TestP1_1SizeAndRune(t *testing.T) {
	for _, x := range []struct {
		b             string
		at, size, num int
	}{
		{"\xC3\xA4\xB0", 0, 2, 0xE4}, {"\xC3\xA4\xB0", 1, 1, -1}, {"\xC3\xA4\xB0", 2, 1, -1}, {"\xC3\xA4\xB0", 3, 0, -1}, {"\xC3\xA4\xB0", -1, 0, -1},
		{"", 0, 0, -1}, {"a", 0, 1, 'a'}, {"\x00", 0, 1, 0}, {"a\xC3\xA4", 1, 2, 0xE4},
		{"\xC2\x80", 0, 2, 0x80}, {"\xDF\xBF", 0, 2, 0x7FF}, {"\xE0\xA0\x80", 0, 3, 0x800}, {"\xEF\xBF\xBF", 0, 3, 0xFFFF}, {"\xF0\x90\x80\x80", 0, 4, 0x10000}, {"\xF4\x8F\xBF\xBF", 0, 4, 0x10FFFF},
		{"\xEF\xBF\xBD", 0, 3, 0xFFFD}, {"\xED\x9F\xBF", 0, 3, 0xD7FF}, {"\xEE\x80\x80", 0, 3, 0xE000},
		{"\xC0\x80", 0, 1, -1}, {"\xC1\xBF", 0, 1, -1}, {"\xE0\x9F\xBF", 0, 1, -1}, {"\xF0\x8F\xBF\xBF", 0, 1, -1},
		{"\xED\xA0\x80", 0, 1, -1}, {"\xED\xBF\xBF", 0, 1, -1}, {"\xF4\x90\x80\x80", 0, 1, -1}, {"\xF5\x80\x80\x80", 0, 1, -1}, {"\xFF", 0, 1, -1},
		{"\xC3", 0, 1, -1}, {"\xE2\x82", 0, 1, -1}, {"\xF0\x9F\x98", 0, 1, -1}, {"\xE2\x82a", 0, 1, -1},
	} {
		if n, r := utf.Size([]byte(x.b), x.at), utf.Rune([]byte(x.b), x.at); n != x.size || r != x.num {
			t.Errorf("%q at %d: size %d, number %X", x.b, x.at, n, r)
		}
	}
	check := func(b []byte) {
		for _, at := range allPlaces(b) {
			size, num := character(b, at)
			if n, r := utf.Size(b, at), utf.Rune(b, at); n != size || r != num {
				t.Fatalf("% x at %d: size %d, number %X", b, at, n, r)
			}
		}
	}
	eachText(edges, 3, check)
	eachText(few, 5, check)
}

func TestP1_2Boundaries(t *testing.T) {
	check := func(b []byte) {
		is := map[int]bool{}
		for _, at := range boundaries(b) {
			is[at] = true
		}
		for _, at := range allPlaces(b) {
			next, prev := len(b), 0
			for i := len(b); i >= 0; i-- {
				if is[i] && i > at {
					next = i
				}
				if is[len(b)-i] && len(b)-i < at {
					prev = len(b) - i
				}
			}
			if utf.Bound(b, at) != is[at] || utf.Next(b, at) != next || utf.Prev(b, at) != prev {
				t.Fatalf("% x at %d: %v, next %d, prev %d", b, at, utf.Bound(b, at), utf.Next(b, at), utf.Prev(b, at))
			}
		}
	}
	eachText(edges, 3, check)
	eachText(few, 5, check)
	for _, s := range []string{"\xF0\x9F\x98\x80\xF0\x9F\x98\x80", "\xF0\x9F\x98\xF0\x9F\x98\x80\x80", "a\xE2\x82\xAC\xC3\xA4\x80\x80\x80\x80", "\xC3\xC3\xA4\xE2\x82\xED\xA0\x80"} {
		check([]byte(s))
	}
}

func TestP1_3CountAndFirst(t *testing.T) {
	check := func(b []byte) {
		l := boundaries(b)
		if utf.Count(b) != len(l)-1 {
			t.Fatalf("% x: %d characters", b, utf.Count(b))
		}
		for _, n := range allPlaces(b) {
			want := len(b)
			if n < 1 {
				want = 0
			} else if n < len(l) {
				want = l[n]
			}
			if got := utf.First(b, n); got != want {
				t.Fatalf("% x: behind %d: %d", b, n, got)
			}
		}
	}
	eachText(edges, 3, check)
	eachText(few, 5, check)
}

func TestP1_4Put(t *testing.T) {
	for r, want := range map[int]string{
		0: "\x00", 'a': "a", 0x7F: "\x7F", 0x80: "\xC2\x80", 0x7FF: "\xDF\xBF", 0x800: "\xE0\xA0\x80", 0xD7FF: "\xED\x9F\xBF", 0xE000: "\xEE\x80\x80", 0xFFFD: "\xEF\xBF\xBD", 0xFFFF: "\xEF\xBF\xBF", 0x10000: "\xF0\x90\x80\x80", 0x10FFFF: "\xF4\x8F\xBF\xBF",
		-1: "", 0xD800: "", 0xDBFF: "", 0xDC00: "", 0xDFFF: "", 0x110000: "", 1<<32 + 'a': "", -1<<32 + 'a': "", 1 << 31: "", math.MinInt: "", math.MaxInt: "",
	} {
		if b := utf.Put(r); string(b) != want {
			t.Errorf("%X: % x", r, b)
		}
	}
	b := utf.Put('a')
	_ = append(b, 'z')
	b[0] = 'b'
	if string(utf.Put('a')) != "a" {
		t.Error("what was written into an answer is seen by a later one")
	}
}

func TestP1_4Class(t *testing.T) {
	letters := "abcdefghijklmnopqrstuvwxyzABCDEFGHIJKLMNOPQRSTUVWXYZ0123456789_"
	for r := range 128 {
		want := 2
		if bytes.IndexByte([]byte(letters), byte(r)) >= 0 {
			want = 1
		}
		if r == ' ' || r >= 9 && r <= 13 {
			want = 0
		}
		if utf.Class(r) != want {
			t.Errorf("%d: %d", r, utf.Class(r))
		}
	}
	for r, want := range map[int]int{128: 1, 0x85: 1, 0xA0: 1, 0x3000: 1, 0x10FFFF: 1, 0x110000: 1, 1<<32 + ' ': 1, math.MaxInt: 1, -1: 2, ' ' - 1<<32: 2, math.MinInt: 2} {
		if utf.Class(r) != want {
			t.Errorf("%d: %d", r, utf.Class(r))
		}
	}
}

func TestP1_5BoundariesPartAllBytes(t *testing.T) {
	check := func(b []byte) {
		at, steps := 0, 0
		for ; at < len(b); steps++ {
			next := utf.Next(b, at)
			if !utf.Bound(b, at) || at+utf.Size(b, at) != next || utf.Prev(b, next) != at {
				t.Fatalf("% x: from %d to %d", b, at, next)
			}
			at = next
		}
		if at != len(b) || !utf.Bound(b, at) || steps != utf.Count(b) {
			t.Fatalf("% x: %d steps, to %d", b, steps, at)
		}
	}
	eachText(edges, 3, check)
	eachText(few, 5, check)
}

func TestP1_5PutIsOneCharacterAnywhere(t *testing.T) {
	around := []string{"", "a", "\x80\x80\x80", "\xC3", "\xE2\x82", "\xF0\x9F\x98", "\xF0\x9F\x98\x80", "\xED\xA0"}
	for r := range 0x110000 {
		p := utf.Put(r)
		if r >= 0xD800 && r <= 0xDFFF {
			if len(p) != 0 {
				t.Fatalf("%X: % x", r, p)
			}
			continue
		}
		// each byte ahead meets each behind, over the numbers
		ahead, behind := around[r%len(around)], around[r/len(around)%len(around)]
		b := append([]byte(ahead), p...)
		b = append(b, behind...)
		at, end := len(ahead), len(ahead)+len(p)
		if !utf.Bound(b, at) || !utf.Bound(b, end) || utf.Size(b, at) != len(p) || utf.Rune(b, at) != r || utf.Next(b, at) != end || utf.Prev(b, end) != at {
			t.Fatalf("%X in % x", r, b)
		}
	}
}

// No call panics, or changes what it was handed.
func TestP1Utf(t *testing.T) {
	for _, s := range []string{"", "\xF0", "\xF0\x9F\x98\x80", "\x80\x80\x80\x80\x80", "ab\xC3"} {
		b := []byte(s)
		if s == "" {
			b = nil
		}
		for _, n := range allPlaces(b) {
			utf.Size(b, n)
			utf.Rune(b, n)
			utf.Bound(b, n)
			utf.Next(b, n)
			utf.Prev(b, n)
			utf.First(b, n)
			utf.Put(n)
			utf.Class(n)
		}
		utf.Count(b)
		if string(b) != s {
			t.Errorf("%q was changed: %q", s, b)
		}
	}
}
