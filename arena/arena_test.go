package arena_test

import (
	"bytes"
	"math"
	"strings"
	"testing"

	"damier/api"
	"damier/arena"
)

// of makes an arena that must be one.
func of(t *testing.T, file string) *arena.Arena {
	t.Helper()
	a, err := arena.New([]byte(file))
	if err != api.OK || a == nil {
		t.Fatalf("New of %d bytes: %v %d", len(file), a, err)
	}
	return a
}

// all tells all bytes of an arena, one by one.
func all(a *arena.Arena) string {
	var b []byte
	for at := range a.Len() {
		c, _ := a.Byte(at)
		b = append(b, c)
	}
	return string(b)
}

func TestP1NilArena(t *testing.T) {
	var a *arena.Arena
	if a.Len() != 0 || a.Room() != 0 {
		t.Error("Len, Room", a.Len(), a.Room())
	}
	for _, b := range [][]byte{nil, {}, {'a'}, make([]byte, api.MaxArena+1)} {
		if s, err := a.Add(b); err != api.ErrNil || s != (arena.Span{}) {
			t.Error("Add", len(b), s, err)
		}
		if s, err := a.Keep(b); err != api.ErrNil || s != (arena.Span{}) {
			t.Error("Keep", len(b), s, err)
		}
	}
	for _, s := range []arena.Span{{}, {At: 1}, {N: 1}, {At: -1, N: -1}} {
		if a.Right(s) || len(a.Bytes(s)) != 0 {
			t.Error("Right, Bytes", s)
		}
	}
	if c, ok := a.Byte(0); c != 0 || ok {
		t.Error("Byte", c, ok)
	}
}

func TestP1ArenaByHand(t *testing.T) {
	a := &arena.Arena{}
	if a.Len() != 0 || a.Room() != api.MaxArena || !a.Right(arena.Span{}) {
		t.Error("an arena that New didn't make", a.Len(), a.Room())
	}
	if s, err := a.Add([]byte("ab")); err != api.OK || s != (arena.Span{N: 2}) {
		t.Error(s, err)
	}
}

func TestP3_1New(t *testing.T) {
	for _, n := range []int{0, 1, 2, 4095, 4096} {
		file := strings.Repeat("x", n)
		a := of(t, file)
		if a.Len() != n || a.Room() != 16384-n || all(a) != file {
			t.Errorf("%d bytes: Len %d, Room %d", n, a.Len(), a.Room())
		}
	}
	for _, n := range []int{4097, 5000, 16384, 16385} {
		if a, err := arena.New(make([]byte, n)); a != nil || err != api.ErrBig {
			t.Errorf("%d bytes: %v %d", n, a, err)
		}
	}
	if a, err := arena.New(nil); a == nil || err != api.OK || a.Len() != 0 {
		t.Error("nil", a, err)
	}
}

func TestP3_1OwnMemory(t *testing.T) {
	file := append(make([]byte, 0, 100), "abc"...)
	a, _ := arena.New(file)
	file[0] = 'X'
	if all(a) != "abc" {
		t.Error("what was handed in is kept", all(a))
	}
	a.Add([]byte("d"))
	if file = file[:4]; file[3] != 0 {
		t.Error("what was handed in is written behind its end")
	}
	b, _ := arena.New([]byte("abc"))
	b.Add([]byte("e"))
	if all(a) != "abcd" || all(b) != "abce" {
		t.Error("two arenas hang together", all(a), all(b))
	}
}

func TestP3_2Add(t *testing.T) {
	a := of(t, "ab")
	for _, c := range []struct {
		b    string
		want arena.Span
	}{{"cd", arena.Span{At: 2, N: 2}}, {"cd", arena.Span{At: 4, N: 2}}, {"", arena.Span{}}, {"\x00", arena.Span{At: 6, N: 1}}, {"ab", arena.Span{At: 7, N: 2}}} {
		before := all(a)
		s, err := a.Add([]byte(c.b))
		if err != api.OK || s != c.want || all(a) != before+c.b || string(a.Bytes(s)) != c.b {
			t.Errorf("Add %q: %v %d", c.b, s, err)
		}
	}
	if a.Len() != 9 || a.Room() != api.MaxArena-9 {
		t.Error("Len, Room", a.Len(), a.Room())
	}
	b := []byte("zz")
	a.Add(b)
	b[0] = 'X'
	if !strings.HasSuffix(all(a), "zz") {
		t.Error("what was handed in is kept")
	}
}

func TestP3_2Full(t *testing.T) {
	a := of(t, "ab")
	room := a.Room()
	for _, call := range []func([]byte) (arena.Span, api.Errno){a.Add, a.Keep} {
		for _, more := range []int{1, 2, 100000} {
			if s, err := call(make([]byte, room+more)); s != (arena.Span{}) || err != api.ErrFull || a.Len() != 2 {
				t.Error("more than there is room for", more, s, err, a.Len())
			}
		}
	}
	if s, err := a.Add(bytes.Repeat([]byte("c"), room-1)); err != api.OK || s != (arena.Span{At: 2, N: room - 1}) || a.Room() != 1 {
		t.Error("all but one", s, err)
	}
	if s, err := a.Add([]byte("de")); err != api.ErrFull || s != (arena.Span{}) {
		t.Error("two, and room for one", s, err)
	}
	if s, err := a.Add([]byte("d")); err != api.OK || s != (arena.Span{At: api.MaxArena - 1, N: 1}) || a.Room() != 0 {
		t.Error("the last one", s, err)
	}
	for _, call := range []func([]byte) (arena.Span, api.Errno){a.Add, a.Keep} {
		if s, err := call([]byte("e")); err != api.ErrFull || s != (arena.Span{}) || a.Len() != api.MaxArena {
			t.Error("full", s, err)
		}
		if s, err := call(nil); err != api.OK || s != (arena.Span{}) {
			t.Error("nothing, into what is full", s, err)
		}
	}
	if s, err := a.Keep([]byte("cd")); err != api.OK || s != (arena.Span{At: api.MaxArena - 2, N: 2}) {
		t.Error("kept, though it is full", s, err)
	}
	if s, err := a.Add([]byte("cd")); err != api.ErrFull || s != (arena.Span{}) {
		t.Error("added, though it is full", s, err)
	}
}

// eachText hands over every text of the bytes of some, up to a length.
func eachText(some string, most int, f func(s string)) {
	var grow func(s string)
	grow = func(s string) {
		f(s)
		for i := 0; i < len(some) && len(s) < most; i++ {
			grow(s + some[i:i+1])
		}
	}
	grow("")
}

func TestP3_2Keep(t *testing.T) {
	eachText("ab\x00", 5, func(file string) {
		eachText("ab", 3, func(b string) {
			a := of(t, file)
			want := arena.Span{At: strings.Index(file, b), N: len(b)}
			after := file
			if b == "" {
				want = arena.Span{}
			} else if want.At < 0 {
				want.At, after = len(file), file+b
			}
			if s, err := a.Keep([]byte(b)); err != api.OK || s != want || all(a) != after {
				t.Fatalf("Keep %q in %q: %v %d", b, file, s, err)
			}
		})
	})
	a := of(t, "ab")
	a.Add([]byte("cd"))
	if s, _ := a.Keep([]byte("bc")); s != (arena.Span{At: 1, N: 2}) || a.Len() != 4 {
		t.Error("over the end of what was added", s)
	}
	if s, _ := a.Keep([]byte("cde")); s != (arena.Span{At: 4, N: 3}) || all(a) != "abcdcde" {
		t.Error("only its beginning stands there", s, all(a))
	}
	b := []byte("new")
	a.Keep(b)
	b[0] = 'X'
	if !strings.HasSuffix(all(a), "new") {
		t.Error("what was handed in is kept")
	}
}

func TestP3_3Right(t *testing.T) {
	for _, file := range []string{"", "a", "abc"} {
		a := of(t, file)
		for at := -3; at < 6; at++ {
			for n := -3; n < 6; n++ {
				s := arena.Span{At: at, N: n}
				right := at >= 0 && n >= 0 && at+n <= len(file)
				want := ""
				if right {
					want = file[at : at+n]
				}
				if a.Right(s) != right || string(a.Bytes(s)) != want {
					t.Errorf("%v in %q: %v %q", s, file, a.Right(s), a.Bytes(s))
				}
			}
		}
	}
	a := of(t, "abc")
	far := []int{math.MinInt, math.MinInt + 1, -1, math.MaxInt - 1, math.MaxInt, 1 << 32, 1<<32 + 1, 4}
	for _, x := range far {
		for _, s := range []arena.Span{{At: x}, {At: x, N: 1}, {N: x}, {At: 1, N: x}, {At: x, N: x}, {At: x, N: -x}, {At: x, N: math.MinInt}, {At: x, N: math.MaxInt}} {
			if a.Right(s) || len(a.Bytes(s)) != 0 {
				t.Errorf("%v is right", s)
			}
		}
		if c, ok := a.Byte(x); c != 0 || ok {
			t.Errorf("Byte %d: %d %v", x, c, ok)
		}
	}
}

func TestP3_3Byte(t *testing.T) {
	a := of(t, "a\x00")
	a.Add([]byte("\xff"))
	for at, want := range []byte{'a', 0, 0xff} {
		if c, ok := a.Byte(at); c != want || !ok {
			t.Error(at, c, ok)
		}
	}
	if c, ok := a.Byte(3); c != 0 || ok {
		t.Error("at the end", c, ok)
	}
}

func TestP3_3OwnMemory(t *testing.T) {
	a := of(t, "abcdef")
	b := a.Bytes(arena.Span{At: 1, N: 3})
	b[0] = 'X'
	_ = append(b, 'Y')
	if all(a) != "abcdef" || string(a.Bytes(arena.Span{At: 1, N: 3})) != "bcd" {
		t.Error("what is told is the arena's own memory", all(a))
	}
}

// places tells the places at which a span's bytes stand, each one.
func places(s arena.Span) []int {
	var l []int
	for k := range max(s.N, 0) {
		l = append(l, s.At+k)
	}
	return l
}

func TestP3_4Sub(t *testing.T) {
	for _, s := range []arena.Span{{}, {At: 5}, {At: 7, N: 1}, {At: 2, N: 4}, {At: -3, N: 2}} {
		for i := -3; i < 8; i++ {
			for j := -3; j < 8; j++ {
				from := min(max(i, 0), s.N)
				want := arena.Span{At: s.At + from, N: max(min(j, s.N)-from, 0)}
				if got := arena.Sub(s, i, j); got != want {
					t.Errorf("Sub %v %d %d: %v", s, i, j, got)
				}
			}
		}
		if got := arena.Sub(s, math.MinInt, math.MaxInt); got != s {
			t.Error("all of", s, got)
		}
		if got := arena.Sub(s, math.MaxInt, math.MinInt); got != (arena.Span{At: s.At + s.N}) {
			t.Error("behind", s, got)
		}
	}
	if got := arena.Sub(arena.Span{At: 4, N: 3}, 1, 3); len(places(got)) != 2 || places(got)[0] != 5 {
		t.Error("its second and third byte", got)
	}
	for _, n := range []int{-1, -2, math.MinInt} {
		for _, i := range []int{-1, 0, 1, math.MinInt, math.MaxInt} {
			if got := arena.Sub(arena.Span{At: 3, N: n}, i, 2); got != (arena.Span{}) {
				t.Error("N below 0", n, i, got)
			}
		}
	}
	const far = 1 << 40
	if got := arena.Sub(arena.Span{At: far, N: far}, far-1, math.MaxInt); got != (arena.Span{At: 2*far - 1, N: 1}) {
		t.Error("far away", got)
	}
}

func TestP3_4Join(t *testing.T) {
	const far = 1 << 40
	for _, c := range []struct {
		s, t, want arena.Span
		ok         bool
	}{
		{arena.Span{At: 0, N: 2}, arena.Span{At: 2, N: 3}, arena.Span{At: 0, N: 5}, true},
		{arena.Span{At: 4, N: 0}, arena.Span{At: 4, N: 3}, arena.Span{At: 4, N: 3}, true},
		{arena.Span{At: 4, N: 2}, arena.Span{At: 6, N: 0}, arena.Span{At: 4, N: 2}, true},
		{arena.Span{}, arena.Span{}, arena.Span{}, true},
		{arena.Span{At: -3, N: 2}, arena.Span{At: -1, N: 2}, arena.Span{At: -3, N: 4}, true},
		{arena.Span{At: far, N: far}, arena.Span{At: 2 * far, N: 1}, arena.Span{At: far, N: far + 1}, true},
		{arena.Span{At: -far, N: far}, arena.Span{At: 0, N: far}, arena.Span{At: -far, N: 2 * far}, true},
		{arena.Span{At: 0, N: 2}, arena.Span{At: 3, N: 3}, arena.Span{}, false},
		{arena.Span{At: 0, N: 2}, arena.Span{At: 1, N: 3}, arena.Span{}, false},
		{arena.Span{At: 2, N: 3}, arena.Span{At: 0, N: 2}, arena.Span{}, false},
		{arena.Span{At: 2, N: -1}, arena.Span{At: 1, N: 4}, arena.Span{}, false},
		{arena.Span{At: 2, N: 4}, arena.Span{At: 6, N: -1}, arena.Span{}, false},
		{arena.Span{At: 2, N: -2}, arena.Span{At: 0, N: -2}, arena.Span{}, false},
		{arena.Span{At: 0, N: 0}, arena.Span{At: 1, N: 0}, arena.Span{}, false},
	} {
		if got, ok := arena.Join(c.s, c.t); got != c.want || ok != c.ok {
			t.Errorf("Join %v %v: %v %v", c.s, c.t, got, ok)
		}
	}
	for _, x := range []int{math.MinInt, math.MaxInt} {
		arena.Join(arena.Span{At: x, N: x}, arena.Span{At: x, N: x})
		arena.Sub(arena.Span{At: x, N: x}, x, x)
	}
}

func TestP3_5Forever(t *testing.T) {
	a := of(t, "start")
	told := map[arena.Span]string{{N: 5}: "start"}
	for k := range 3000 {
		b := []byte(strings.Repeat(string(rune('a'+k%7)), k%23) + string(rune('0'+k%10)))
		call := a.Add
		if k%3 == 0 {
			call = a.Keep
		}
		before := a.Len()
		s, err := call(b)
		switch {
		case err == api.OK:
			told[s] = string(b)
		case err != api.ErrFull || a.Len() != before || before+len(b) <= api.MaxArena:
			t.Fatal("refused", k, err, before)
		}
		if a.Len() > api.MaxArena || a.Room() != api.MaxArena-a.Len() {
			t.Fatal("too many bytes", a.Len())
		}
	}
	if a.Room() > 23 {
		t.Error("it never was full", a.Room())
	}
	for s, want := range told {
		if string(a.Bytes(s)) != want {
			t.Fatalf("%v told %q, tells %q", s, want, a.Bytes(s))
		}
	}
}

func TestP3Example(t *testing.T) {
	a := of(t, "")
	s, _ := a.Add([]byte("ab"))
	u, err := a.Keep([]byte("b"))
	if err != api.OK || u != arena.Sub(s, 1, 2) || a.Len() != 2 {
		t.Error(s, u, err)
	}
}
