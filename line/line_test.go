package line_test

import (
	"bytes"
	"math"
	"slices"
	"strings"
	"testing"
	"unicode/utf8"

	"damier/api"
	"damier/arena"
	"damier/keys"
	"damier/line"
	"damier/piece"
)

// wordAway and lineAway are Ctrl-w and Ctrl-u.
const (
	wordAway = 23
	lineAway = 21
)

// several are keys of all kinds, and numbers that are none.
func several() []int {
	return []int{
		'a', ' ', '-', 0xE4, 0x20AC, 0x1F600, keys.Return, keys.Rubout, keys.Delete, lineAway, wordAway, keys.Left, keys.Right, keys.Home, keys.End,
		keys.Up, keys.Down, keys.Tab, keys.Enter, keys.Esc, 1, 26, 0, 28, 31, -7, 0xD800, 0x110000, math.MinInt, math.MaxInt, 1<<32 + 'a', 1<<32 + keys.Rubout,
	}
}

// eachText hands over all rows of up to n of some texts.
func eachText(n int, some []string, f func(s string)) {
	var grow func(s string, left int)
	grow = func(s string, left int) {
		f(s)
		for i := 0; i < len(some) && left > 0; i++ {
			grow(s+some[i], left-1)
		}
	}
	grow("", n)
}

// chance tells numbers below n, one after the other, always the same ones.
func chance(seed uint32) func(n int) int {
	return func(n int) int {
		seed = seed*1664525 + 1013904223
		return int(seed>>8) % n
	}
}

// places are those of n bytes, and about them.
func places(n int) []int {
	all := []int{math.MinInt, -1, n + 1, n + 2, math.MaxInt}
	for at := range n + 1 {
		all = append(all, at)
	}
	return all
}

// characters tells by the words the characters of a text, one by one.
func characters(s string) []string {
	var l []string
	for s != "" {
		_, n := utf8.DecodeRuneInString(s)
		l = append(l, s[:n])
		s = s[n:]
	}
	return l
}

// parted tells the characters ahead of a place, and those behind; of a place within one, it goes behind.
func parted(s string, at int) ([]string, []string) {
	n, all := 0, characters(s)
	for i, c := range all {
		if n += len(c); n > at {
			return all[:i], all[i:]
		}
	}
	return all, nil
}

// size tells how many bytes characters have.
func size(l []string) int {
	return len(strings.Join(l, ""))
}

// class tells by the words the class of a character.
func class(c string) int {
	switch {
	case strings.Contains(" \t\n\v\f\r", c):
		return 0
	case len(c) > 1, 'a' <= c[0] && c[0] <= 'z', 'A' <= c[0] && c[0] <= 'Z', '0' <= c[0] && c[0] <= '9', c == "_":
		return 1
	}
	return 2
}

// withoutWord tells by the words what is left of characters whose last word goes.
func withoutWord(l []string) []string {
	last := ""
	for len(l) > 0 && (last == "" || class(last) == 0 || class(l[len(l)-1]) == class(last)) {
		last = l[len(l)-1]
		l = l[:len(l)-1]
	}
	return l
}

// planned tells by the words what a key does, and whether it is one that does something.
func planned(s string, at, k int) (line.Edit, bool) {
	ahead, behind := parted(s, at)
	here := size(ahead)
	e := line.Edit{From: here, To: here, At: here}
	one := func(l []string, from, to int) int { return size(l[max(from, 0):max(min(to, len(l)), 0)]) }
	switch k {
	case keys.Rubout:
		e.From -= one(ahead, len(ahead)-1, len(ahead))
		e.At = e.From
	case keys.Delete:
		e.To += one(behind, 0, 1)
	case lineAway:
		e.From, e.At = 0, 0
	case wordAway:
		e.From = size(withoutWord(ahead))
		e.At = e.From
	case keys.Left:
		e.At -= one(ahead, len(ahead)-1, len(ahead))
	case keys.Right:
		e.At += one(behind, 0, 1)
	case keys.Home:
		e.At = 0
	case keys.End:
		e.At = len(s)
	default:
		if k != 10 && (k < 32 || k == 127 || k > 0x10FFFF || 0xD800 <= k && k < 0xE000) {
			return e, false
		}
		e.In = string(rune(k))
		e.At += len(e.In)
	}
	return e, true
}

// done tells by the words the text behind an edit, and the place in it.
func done(s string, e line.Edit) (string, int) {
	s = s[:e.From] + e.In + s[e.To:]
	ahead, _ := parted(s, e.At)
	return s, size(ahead)
}

// pieces are bytes of which characters of all kinds are made: letters, blanks, others, of two bytes, and odd ones.
func pieces() []string {
	return []string{"a", " ", "-", "\xc3", "\xa4"}
}

func TestP30_1Plan(t *testing.T) {
	check := func(s string, at, k int) {
		b := []byte(s)
		got, its := line.Plan(b, at, k)
		if want, is := planned(s, at, k); got != want || its != is {
			t.Fatalf("%q at %d, the key %d: %+v, %v, not %+v, %v", s, at, k, got, its, want, is)
		}
		if string(b) != s {
			t.Fatalf("%q became %q", s, b)
		}
	}
	eachText(5, pieces(), func(s string) {
		for _, at := range places(len(s)) {
			for _, k := range several() {
				check(s, at, k)
			}
		}
	})
	eachText(4, []string{"_9", "Z\x7f", "\u20ac", "\U0001f600", "\t\n", "\v\f\r ", "\xe2\x82", "\xff\x80"}, func(s string) {
		for _, at := range places(len(s)) {
			for _, k := range []int{keys.Rubout, keys.Delete, wordAway, lineAway, keys.Left, keys.Right, keys.Home, keys.End, 'x', keys.Up} {
				check(s, at, k)
			}
		}
	})
}

func TestP30_1Keys(t *testing.T) {
	for k := -100; k < 0x110100; k++ {
		got, its := line.Plan([]byte("ab"), 1, k)
		if want, is := planned("ab", 1, k); got != want || its != is {
			t.Fatalf("the key %d: %+v, %v, not %+v, %v", k, got, its, want, is)
		}
	}
}

func TestP30_1PlanExamples(t *testing.T) {
	for _, x := range []struct {
		s     string
		at, k int
		want  line.Edit
		is    bool
	}{
		{"ab", 1, 0xE4, line.Edit{From: 1, To: 1, In: "\u00e4", At: 3}, true},
		{"ab", 2, keys.Return, line.Edit{From: 2, To: 2, In: "\n", At: 3}, true},
		{"a\u00e4b", 3, keys.Rubout, line.Edit{From: 1, To: 3, At: 1}, true},
		{"a\u00e4b", 2, keys.Rubout, line.Edit{From: 0, To: 1, At: 0}, true},
		{"a\u00e4b", 1, keys.Delete, line.Edit{From: 1, To: 3, At: 1}, true},
		{"ab", 0, keys.Rubout, line.Edit{}, true},
		{"ab", 2, keys.Delete, line.Edit{From: 2, To: 2, At: 2}, true},
		{"ab", 9, keys.Left, line.Edit{From: 2, To: 2, At: 1}, true},
		{"ab", -9, keys.Right, line.Edit{From: 0, To: 0, At: 1}, true},
		{"ab", 1, keys.Home, line.Edit{From: 1, To: 1, At: 0}, true},
		{"ab", 1, keys.End, line.Edit{From: 1, To: 1, At: 2}, true},
		{"ab cd", 4, lineAway, line.Edit{From: 0, To: 4, At: 0}, true},
		{"ab cd", 4, wordAway, line.Edit{From: 3, To: 4, At: 3}, true},
		{"ab cd \t", 7, wordAway, line.Edit{From: 3, To: 7, At: 3}, true},
		{"ab--", 4, wordAway, line.Edit{From: 2, To: 4, At: 2}, true},
		{"ab-\xff", 4, wordAway, line.Edit{From: 2, To: 4, At: 2}, true},
		{"  ", 2, wordAway, line.Edit{From: 0, To: 2, At: 0}, true},
		{"ab", 0, wordAway, line.Edit{}, true},
		{"ab", 1, keys.Enter, line.Edit{From: 1, To: 1, At: 1}, false},
		{"ab", 9, keys.Up, line.Edit{From: 2, To: 2, At: 2}, false},
		{"\xc3x\xa4", 1, keys.Delete, line.Edit{From: 1, To: 2, At: 1}, true},
	} {
		if got, its := line.Plan([]byte(x.s), x.at, x.k); got != x.want || its != x.is {
			t.Errorf("%q at %d, the key %d: %+v, %v, not %+v", x.s, x.at, x.k, got, its, x.want)
		}
	}
}

// stored tells an arena with some bytes, more than a file may have, too.
func stored(t *testing.T, s string) *arena.Arena {
	t.Helper()
	a, _ := arena.New(nil)
	if _, err := a.Add([]byte(s)); err != api.OK {
		t.Fatal("the arena has no room", err)
	}
	return a
}

// all tells all bytes of an arena.
func all(a *arena.Arena) string {
	return string(a.Bytes(arena.Span{N: a.Len()}))
}

// scattered tells a text of a span a byte, each where the arena has that byte last, so that few of them touch.
func scattered(t *testing.T, a *arena.Arena, s string) piece.Text {
	t.Helper()
	var l []arena.Span
	for _, c := range []byte(s) {
		at := strings.LastIndexByte(all(a), c)
		if at < 0 {
			t.Fatalf("there is no %q", c)
		}
		l = append(l, arena.Span{At: at, N: 1})
	}
	return piece.Of(l...)
}

// same tells whether two lines are the same, spans and all.
func same(l, m line.Line) bool {
	return piece.Same(l.T, m.T) && l.At == m.At
}

// behind tells by the words the line behind a key, in an arena of its own, whose bytes then are told, too.
func behind(t *testing.T, a *arena.Arena, l line.Line, k int) (line.Line, bool, api.Errno, string) {
	t.Helper()
	old := all(a)
	twin := stored(t, old)
	b := string(l.T.Flat(a))
	e, its := planned(b, l.At, k)
	s, at := done(b, e)
	if !its {
		return line.Line{T: l.T, At: at}, false, api.OK, old
	}
	if len(s) > api.MaxCell {
		return l, true, api.ErrLong, old
	}
	in, err := twin.Keep([]byte(e.In))
	if err != api.OK {
		return l, true, err, old
	}
	x, err := piece.Concat(l.T.Slice(0, e.From), piece.Of(in), l.T.Slice(e.To, len(b))).Tidy(twin)
	if err != api.OK {
		return l, true, err, old
	}
	return line.Line{T: x, At: at}, true, api.OK, all(twin)
}

// pressed holds a key, done to a line, against the words, and tells the line behind it.
func pressed(t *testing.T, a *arena.Arena, l line.Line, k int) line.Line {
	t.Helper()
	old := string(l.T.Flat(a))
	want, is, wantErr, wantBytes := behind(t, a, l, k)
	got, its, err := l.Key(a, k)
	if !same(got, want) || its != is || err != wantErr || all(a) != wantBytes {
		t.Fatalf("%q at %d, the key %d: %q at %d, %v, %d, %d bytes, not %v at %d, %v, %d, %d bytes",
			old, l.At, k, got.T.Flat(a), got.At, its, err, a.Len(), want.T.Spans(), want.At, is, wantErr, len(wantBytes))
	}
	if string(l.T.Flat(a)) != old {
		t.Fatalf("%q became %q", old, l.T.Flat(a))
	}
	return got
}

func TestP30_2Open(t *testing.T) {
	eachText(3, []string{"a", "\xc3", "\u00e4"}, func(s string) {
		a := stored(t, s+"/"+s)
		for _, x := range []piece.Text{piece.Of(arena.Span{N: len(s)}), scattered(t, a, s)} {
			if l := line.Open(x, false); !same(l, line.Line{T: x}) {
				t.Errorf("%q: at %d", s, l.At)
			}
			if l := line.Open(x, true); !same(l, line.Line{T: x, At: len(s)}) {
				t.Errorf("%q, at its end: at %d", s, l.At)
			}
		}
	})
}

func TestP30_2Key(t *testing.T) {
	eachText(4, pieces(), func(s string) {
		for _, k := range several() {
			for _, at := range places(len(s)) {
				a := stored(t, "/\u20ac\xa4\xc3/ -a/"+s)
				for _, x := range []piece.Text{piece.Of(arena.Span{At: a.Len() - len(s), N: len(s)}), scattered(t, a, s)} {
					pressed(t, a, line.Line{T: x, At: at}, k)
				}
			}
		}
	})
}

func TestP30_2KeyExamples(t *testing.T) {
	a := stored(t, "abc,d")
	l := line.Open(piece.Of(arena.Span{N: 3}), true)
	for _, x := range []struct {
		k    int
		s    string
		at   int
		is   bool
		room int
	}{
		{'d', "abcd", 4, true, 5}, {keys.Left, "abcd", 3, true, 5}, {keys.Left, "abcd", 2, true, 5}, {'x', "abxcd", 3, true, 6},
		{keys.Enter, "abxcd", 3, false, 6}, {keys.Delete, "abxd", 3, true, 6}, {keys.Return, "abx\nd", 4, true, 7}, {'x', "abx\nxd", 5, true, 7},
		{wordAway, "abx\nd", 4, true, 7}, {wordAway, "d", 0, true, 7}, {keys.Rubout, "d", 0, true, 7}, {keys.End, "d", 1, true, 7}, {lineAway, "", 0, true, 7},
	} {
		next, its, err := l.Key(a, x.k)
		if string(next.T.Flat(a)) != x.s || next.At != x.at || its != x.is || err != api.OK || a.Len() != x.room {
			t.Fatalf("%q at %d, the key %d: %q at %d, %v, %d, %d bytes", l.T.Flat(a), l.At, x.k, next.T.Flat(a), next.At, its, err, a.Len())
		}
		l = next
	}
}

// A character that goes may leave odd bytes side by side that are one character then: the place is ahead of it.
func TestP30_2KeyJoins(t *testing.T) {
	for _, x := range []struct {
		s      string
		at, k  int
		want   string
		wantAt int
	}{
		{"\xc3x\xa4", 1, keys.Delete, "\u00e4", 0},
		{"\xc3x\xa4", 2, keys.Rubout, "\u00e4", 0},
		{"b\xe2\x82xy\xac", 5, wordAway, "b\u20ac", 1},
		{"\xf0\x9f\x98\u00e4\x80", 5, keys.Rubout, "\U0001f600", 0},
	} {
		a := stored(t, x.s)
		l, its, err := line.Line{T: piece.Of(arena.Span{N: len(x.s)}), At: x.at}.Key(a, x.k)
		if string(l.T.Flat(a)) != x.want || l.At != x.wantAt || !its || err != api.OK {
			t.Errorf("%q at %d, the key %d: %q at %d, %v, %d", x.s, x.at, x.k, l.T.Flat(a), l.At, its, err)
		}
		p, its, err := line.Prompt{S: x.s, At: x.at}.Key(x.k)
		if p != (line.Prompt{S: x.want, At: x.wantAt}) || !its || err != api.OK {
			t.Errorf("%q at %d, the key %d: %q at %d, %v, %d", x.s, x.at, x.k, p.S, p.At, its, err)
		}
	}
}

func TestP30_2KeyLong(t *testing.T) {
	for _, n := range []int{api.MaxCell - 5, api.MaxCell - 4, api.MaxCell - 3, api.MaxCell - 2, api.MaxCell - 1, api.MaxCell, api.MaxCell + 1, api.MaxCell + 2, 2 * api.MaxCell} {
		for _, k := range several() {
			for _, at := range []int{-1, 0, 1, n - 1, n, n + 1} {
				a := stored(t, strings.Repeat("u", n))
				pressed(t, a, line.Line{T: piece.Of(arena.Span{N: n}), At: at}, k)
			}
		}
	}
	a := stored(t, strings.Repeat("u", api.MaxCell)+"vw")
	full := line.Line{T: piece.Of(arena.Span{N: api.MaxCell}), At: 1 << 40}
	for _, k := range []int{'v', 'x', 0xE4, keys.Return} {
		if l, its, err := full.Key(a, k); !same(l, full) || !its || err != api.ErrLong || a.Len() != api.MaxCell+2 {
			t.Errorf("the key %d: at %d, %v, %d", k, l.At, its, err)
		}
	}
	if l, its, err := full.Key(a, keys.Left); l.At != api.MaxCell-1 || !its || err != api.OK {
		t.Errorf("Left: at %d, %v, %d", l.At, its, err)
	}
}

// filled tells an arena of no more room than so many bytes: beside some it has slashes alone, all ahead of these.
func filled(t *testing.T, s string, room int) *arena.Arena {
	t.Helper()
	return stored(t, strings.Repeat("/", api.MaxArena-len(s)-room)+s)
}

func TestP30_2KeyFull(t *testing.T) {
	const s = "abc\xc3\xa4"
	for room := range 5 {
		for _, k := range several() {
			for at := range len(s) + 1 {
				a := filled(t, s, room)
				pressed(t, a, line.Line{T: piece.Of(arena.Span{At: a.Len() - len(s), N: len(s)}), At: at}, k)
			}
		}
	}
	a := filled(t, s, 1)
	l := line.Line{T: piece.Of(arena.Span{At: a.Len() - len(s), N: 3}), At: 1 << 40}
	if m, its, err := l.Key(a, 0xF6); !same(m, l) || !its || err != api.ErrFull || a.Room() != 1 {
		t.Errorf("at %d, %v, %d, room for %d", m.At, its, err, a.Room())
	}
	if m, its, err := l.Key(a, 0xE4); string(m.T.Flat(a)) != s || m.At != 5 || !its || err != api.OK || a.Room() != 1 {
		t.Errorf("%q at %d, %v, %d, room for %d", m.T.Flat(a), m.At, its, err, a.Room())
	}
}

func TestP30_2KeyTidy(t *testing.T) {
	const few = "zyxwvutsrqponmlkjihgfedcba"
	for _, n := range []int{api.MaxPieces - 2, api.MaxPieces - 1, api.MaxPieces, api.MaxPieces + 1} {
		s := strings.Repeat(few, 2)[:n]
		for _, ends := range []string{"", "cba", "edcba", s} {
			for _, room := range []int{0, 1, n - 1, n, n + 1, n + 2, n + 4, 2 * api.MaxCell} {
				for _, k := range []int{'q', 'Q', 0x1F600, keys.Rubout, keys.Delete, keys.Left, wordAway, lineAway, keys.Up} {
					for _, at := range []int{0, n / 2, n - 1, 99} {
						a := filled(t, "abcdefghijklmnopqrstuvwxyz"+ends, room)
						x := scattered(t, a, s)
						pressed(t, a, line.Line{T: x, At: at}, k)
					}
				}
			}
		}
	}
}

// What is refused leaves nothing in the arena, also where what came was kept, and tidying alone was refused.
func TestP30_2KeyRefused(t *testing.T) {
	const few = "abcdefghijklmnopqrstuvwxyz"
	a := filled(t, few, 3)
	x := scattered(t, a, "zyxwvutsrqponmlkjihgfedcbazxvtrp")
	l := line.Line{T: x, At: 5}
	if len(x.Spans()) != api.MaxPieces {
		t.Fatal(x.Spans())
	}
	for _, k := range []int{'b', 'Q', 0xE4, 0x20AC, keys.Return} {
		if m, its, err := l.Key(a, k); !same(m, l) || !its || err != api.ErrFull || a.Room() != 3 {
			t.Errorf("the key %d: at %d, %v, %d, room for %d", k, m.At, its, err, a.Room())
		}
	}
	// There is room for a character that comes instead of another one.
	m, its, err := l.Key(a, keys.Delete)
	if !its || err != api.OK || len(m.T.Spans()) != api.MaxPieces-1 {
		t.Fatal(its, err, m.T.Spans())
	}
	if m, its, err = m.Key(a, 'Q'); !its || err != api.OK || string(m.T.Flat(a)) != "zyxwvQtsrqponmlkjihgfedcbazxvtrp" || m.At != 6 || a.Room() != 2 {
		t.Errorf("%q at %d, %v, %d, room for %d", m.T.Flat(a), m.At, its, err, a.Room())
	}
}

func TestP30_2KeyNil(t *testing.T) {
	for _, l := range []line.Line{{}, {At: 9}, {At: -9}} {
		for _, k := range several() {
			m, its, err := l.Key(nil, k)
			_, is := planned("", 0, k)
			switch {
			case its != is:
				t.Errorf("the key %d: %v", k, its)
			case is && (err != api.ErrNil || !same(m, l)):
				t.Errorf("the key %d: %v, %d", k, m, err)
			case !is && (err != api.OK || !same(m, line.Line{})):
				t.Errorf("the key %d: %v, %d", k, m, err)
			}
		}
	}
}

// The same where the arena has room for the greatest text, but not for what comes beside it.
func TestP30_2KeyRefusedGreatest(t *testing.T) {
	const few = "abcdefghijkl"
	for _, k := range []int{'Q', 0xE4, 0x20AC, 0x1F600, keys.Return} {
		in := len(string(rune(k)))
		for room := api.MaxCell - in - 2; room < api.MaxCell+in+3; room++ {
			a := filled(t, few, room)
			at := a.Len() - len(few)
			l := slices.Repeat([]arena.Span{{At: at, N: len(few)}}, api.MaxCell/len(few)-1)
			n := len(few) * len(l)
			for n < api.MaxCell-in {
				l = append(l, arena.Span{At: at + 5, N: min(api.MaxCell-in-n, 3)})
				n += l[len(l)-1].N
			}
			x := line.Line{T: piece.Of(l...), At: 100}
			if len(x.T.Spans()) <= api.MaxPieces || x.T.Len() != api.MaxCell-in {
				t.Fatal(x.T.Spans())
			}
			if m := pressed(t, a, x, k); (a.Room() == room) != same(m, x) || same(m, x) != (room < api.MaxCell+in) {
				t.Errorf("the key %d, room for %d: %d bytes, room for %d", k, room, m.T.Len(), a.Room())
			}
		}
	}
}

// typed tells some key, mostly one that does something.
func typed(next func(n int) int) int {
	some := several()
	if next(3) > 0 {
		return some[next(15)]
	}
	return some[next(len(some))]
}

func TestP30_2KeysInARow(t *testing.T) {
	for seed := range 20 {
		next := chance(uint32(seed))
		a := stored(t, strings.Repeat("a\u00e4- \xc3/b", 1+next(400)))
		l := line.Open(piece.Of(arena.Span{N: min(next(300), a.Len())}), next(2) == 0)
		for range 400 {
			l = pressed(t, a, l, typed(next))
			if next(9) == 0 {
				l.At = next(l.T.Len()+5) - 2
			}
			if len(l.T.Spans()) > api.MaxPieces || l.T.Len() > api.MaxCell {
				t.Fatal(l.T.Spans())
			}
		}
	}
}

// prompted holds a key, done to a prompt, against the words, and tells the prompt behind it.
func prompted(t *testing.T, p line.Prompt, k int) line.Prompt {
	t.Helper()
	e, is := planned(p.S, p.At, k)
	if k == keys.Return {
		e, is = planned(p.S, p.At, keys.Up)
	}
	s, at := done(p.S, e)
	want, wantErr := line.Prompt{S: s, At: at}, api.OK
	if is && len(s) > api.MaxLine {
		want, wantErr = p, api.ErrLong
	}
	got, its, err := p.Key(k)
	if got != want || its != is || err != wantErr {
		t.Fatalf("%q at %d, the key %d: %q at %d, %v, %d, not %q at %d, %v, %d", p.S, p.At, k, got.S, got.At, its, err, want.S, want.At, is, wantErr)
	}
	return got
}

func TestP30_3Key(t *testing.T) {
	eachText(5, pieces(), func(s string) {
		for _, at := range places(len(s)) {
			for _, k := range several() {
				prompted(t, line.Prompt{S: s, At: at}, k)
			}
		}
	})
	for seed := range 20 {
		next := chance(uint32(seed))
		p := line.Prompt{}
		for range 1000 {
			p = prompted(t, p, typed(next))
		}
	}
}

func TestP30_3KeyExamples(t *testing.T) {
	for _, x := range []struct {
		p    line.Prompt
		k    int
		want line.Prompt
		is   bool
	}{
		{line.Prompt{}, 'w', line.Prompt{S: "w", At: 1}, true},
		{line.Prompt{S: "ab", At: 1}, keys.Return, line.Prompt{S: "ab", At: 1}, false},
		{line.Prompt{S: "ab", At: 7}, keys.Return, line.Prompt{S: "ab", At: 2}, false},
		{line.Prompt{S: "ab", At: 7}, keys.Enter, line.Prompt{S: "ab", At: 2}, false},
		{line.Prompt{S: "ab", At: -7}, keys.Esc, line.Prompt{S: "ab"}, false},
		{line.Prompt{S: "s/a/b/", At: 6}, wordAway, line.Prompt{S: "s/a/b", At: 5}, true},
		{line.Prompt{}, keys.Rubout, line.Prompt{}, true},
	} {
		if got, its, err := x.p.Key(x.k); got != x.want || its != x.is || err != api.OK {
			t.Errorf("%q at %d, the key %d: %q at %d, %v, %d", x.p.S, x.p.At, x.k, got.S, got.At, its, err)
		}
	}
}

func TestP30_3KeyLong(t *testing.T) {
	for _, n := range []int{api.MaxLine - 4, api.MaxLine - 3, api.MaxLine - 2, api.MaxLine - 1, api.MaxLine, api.MaxLine + 1, api.MaxLine + 2, 5000} {
		for _, at := range []int{-1, 0, 1, n - 1, n, 1 << 40} {
			for _, k := range several() {
				prompted(t, line.Prompt{S: strings.Repeat("u", n), At: at}, k)
			}
		}
	}
	full := line.Prompt{S: strings.Repeat("u", api.MaxLine), At: 1 << 40}
	if p, its, err := full.Key('v'); p != full || !its || err != api.ErrLong {
		t.Errorf("at %d, %v, %d", p.At, its, err)
	}
	if p, its, err := full.Key(keys.Return); p.S != full.S || p.At != api.MaxLine || its || err != api.OK {
		t.Errorf("Return: at %d, %v, %d", p.At, its, err)
	}
}

func TestP30_4TypedAndRubbedOut(t *testing.T) {
	eachText(4, pieces(), func(s string) {
		for at := range len(s) + 1 {
			ahead, _ := parted(s, at)
			if size(ahead) != at {
				continue
			}
			for _, k := range []int{'a', ' ', '-', 0xE4, 0x20AC, 0x1F600} {
				a := stored(t, s)
				l, _, _ := line.Line{T: piece.Of(arena.Span{N: len(s)}), At: at}.Key(a, k)
				l, its, err := l.Key(a, keys.Rubout)
				if string(l.T.Flat(a)) != s || l.At != at || !its || err != api.OK {
					t.Fatalf("%q at %d, the key %d: %q at %d", s, at, k, l.T.Flat(a), l.At)
				}
				p, _, _ := line.Prompt{S: s, At: at}.Key(k)
				if p, _, _ = p.Key(keys.Rubout); p != (line.Prompt{S: s, At: at}) {
					t.Fatalf("%q at %d, the key %d: %q at %d", s, at, k, p.S, p.At)
				}
			}
		}
	})
}

func TestP30_4ThereAndBack(t *testing.T) {
	eachText(5, pieces(), func(s string) {
		for at := range len(s) + 1 {
			ahead, _ := parted(s, at)
			if size(ahead) != at {
				continue
			}
			here := line.Prompt{S: s, At: at}
			for there, back := range map[int]int{keys.Left: keys.Right, keys.Right: keys.Left} {
				p, _, _ := here.Key(there)
				if p != here {
					p, _, _ = p.Key(back)
				}
				if p != here {
					t.Fatalf("%q at %d, there and back: at %d", s, at, p.At)
				}
			}
		}
	})
}

func TestP30_4Boundary(t *testing.T) {
	eachText(4, append(pieces(), "\xe2\x82", "\xac"), func(s string) {
		for _, at := range places(len(s)) {
			for _, k := range several() {
				p, _, _ := line.Prompt{S: s, At: at}.Key(k)
				if ahead, _ := parted(p.S, p.At); size(ahead) != p.At {
					t.Fatalf("%q at %d, the key %d: %q at %d", s, at, k, p.S, p.At)
				}
			}
		}
	})
}

func TestP30Examples(t *testing.T) {
	p, its, err := line.Prompt{S: "ab cd", At: 5}.Key(keys.Ctrl('w'))
	if p != (line.Prompt{S: "ab ", At: 3}) || !its || err != api.OK {
		t.Error(p, its, err)
	}
}

func TestP1LineAnyArguments(t *testing.T) {
	numbers := []int{math.MinInt, -1 << 40, -5, -1, 0, 1, 2, 7, 1 << 20, 1 << 40, math.MaxInt}
	next := chance(9)
	number := func() int { return numbers[next(len(numbers))] }
	file := []byte("a\u00e4 \xffb")
	for range 3000 {
		var l []arena.Span
		for range next(50) {
			l = append(l, arena.Span{At: number(), N: number()})
		}
		text := piece.Of(l...)
		for _, k := range several() {
			full, _ := arena.New(file)
			for _, a := range []*arena.Arena{nil, {}, full} {
				line.Line{T: text, At: number()}.Key(a, k)
				line.Open(text, k > 0).Key(a, number())
			}
			line.Plan(file, number(), k)
			line.Plan(nil, number(), number())
			line.Prompt{S: string(file), At: number()}.Key(number())
			line.Prompt{At: number()}.Key(k)
		}
	}
	if string(file) != "a\u00e4 \xffb" {
		t.Errorf("%q", file)
	}
}

func TestP1LineChangesNothing(t *testing.T) {
	a := stored(t, "zyxabc")
	x := piece.Of(arena.Span{At: 3, N: 2}, arena.Span{At: 0, N: 2})
	spans := x.Spans()
	l := line.Line{T: x, At: 2}
	for _, k := range several() {
		for range 3 {
			m, _, _ := l.Key(a, k)
			m.Key(a, 'x')
		}
	}
	if !slices.Equal(x.Spans(), spans) || !same(l, line.Line{T: x, At: 2}) || !bytes.Equal(x.Flat(a), []byte("abzy")) {
		t.Errorf("%v at %d", x.Spans(), l.At)
	}
}
