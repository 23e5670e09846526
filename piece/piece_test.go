package piece_test

import (
	"bytes"
	"math"
	"slices"
	"testing"

	"damier/api"
	"damier/arena"
	"damier/piece"
	"damier/utf"
)

const file = "ab\u00e4\"c,\xe4\r\nd\U0001f600"

func fresh(t *testing.T) *arena.Arena {
	t.Helper()
	a, err := arena.New([]byte(file))
	if err != api.OK {
		t.Fatal(err)
	}
	return a
}

// fewest tells by the words which spans a text of these has.
func fewest(l []arena.Span) []arena.Span {
	var out []arena.Span
	for _, s := range l {
		if s.N < 1 {
			continue
		}
		if k := len(out) - 1; k >= 0 && out[k].At+out[k].N == s.At {
			out[k].N += s.N
		} else {
			out = append(out, s)
		}
	}
	return out
}

// ones tells the spans of one byte each of which a text is made.
func ones(t piece.Text) []arena.Span {
	var l []arena.Span
	for _, s := range t.Spans() {
		for k := range s.N {
			l = append(l, arena.Span{At: s.At + k, N: 1})
		}
	}
	return l
}

func is(t *testing.T, what string, got piece.Text, want []arena.Span) {
	t.Helper()
	if few := fewest(want); !slices.Equal(got.Spans(), few) {
		t.Fatalf("%s: %v, not %v", what, got.Spans(), few)
	}
}

// rows hands over every row of spans, up to a length, of a few that lie side by side, alike, empty and wrong.
func rows(most int, f func(l []arena.Span)) {
	some := []arena.Span{{At: 0, N: 2}, {At: 2, N: 3}, {At: 5, N: 1}, {At: 1, N: 1}, {At: 3, N: 0}, {At: 2, N: -2}}
	var grow func(l []arena.Span)
	grow = func(l []arena.Span) {
		f(l)
		for k := 0; k < len(some) && len(l) < most; k++ {
			grow(append(slices.Clone(l), some[k]))
		}
	}
	grow(nil)
}

func TestP4_1Of(t *testing.T) {
	rows(5, func(l []arena.Span) {
		x := piece.Of(l...)
		is(t, "Of", x, l)
		n := 0
		for _, s := range fewest(l) {
			n += s.N
		}
		if x.Len() != n {
			t.Fatalf("Len of %v: %d", l, x.Len())
		}
	})
	far := []arena.Span{{At: 1 << 40, N: 1 << 20}, {At: 1<<40 + 1<<20, N: 1 << 20}, {At: 0, N: 1 << 20}}
	if x := piece.Of(far...); len(x.Spans()) != 2 || x.Len() != 3<<20 {
		t.Error("far away", x.Spans())
	}
	if x := piece.Of(); x.Len() != 0 || len(x.Spans()) != 0 || !piece.Same(x, piece.Text{}) {
		t.Error("of nothing", x)
	}
}

func TestP4_1OwnMemory(t *testing.T) {
	l := []arena.Span{{At: 0, N: 2}, {At: 2, N: 1}, {At: 7, N: 2}}
	was := slices.Clone(l)
	x := piece.Of(l...)
	if !slices.Equal(l, was) {
		t.Error("what was handed in is changed", l)
	}
	l[0].N = 9
	l[2].At = 0
	is(t, "a list that was written into later", x, was)
	told := x.Spans()
	told[0].At = 99
	_ = append(told[:1], arena.Span{At: 50, N: 50})
	is(t, "an answer that was written into", x, was)
}

func TestP4_1Same(t *testing.T) {
	var texts []piece.Text
	rows(3, func(l []arena.Span) { texts = append(texts, piece.Of(l...)) })
	for _, x := range texts {
		for _, y := range texts {
			if piece.Same(x, y) != slices.Equal(x.Spans(), y.Spans()) {
				t.Fatal(x, y)
			}
		}
	}
	// The same bytes of other spans are no same text.
	a, _ := arena.New([]byte("aa"))
	x, y := piece.Of(arena.Span{N: 1}), piece.Of(arena.Span{At: 1, N: 1})
	if bytes.Equal(x.Flat(a), y.Flat(a)) && piece.Same(x, y) {
		t.Error("other spans are the same")
	}
}

func TestP4_2Slice(t *testing.T) {
	rows(4, func(l []arena.Span) {
		x := piece.Of(l...)
		bits, n := ones(x), x.Len()
		for i := -2; i < n+3; i++ {
			for j := -2; j < n+3; j++ {
				from, to := min(max(i, 0), n), min(max(j, 0), n)
				is(t, "Slice", x.Slice(i, j), bits[from:max(from, to)])
			}
		}
	})
}

func TestP4_2Delete(t *testing.T) {
	rows(4, func(l []arena.Span) {
		x := piece.Of(l...)
		bits, n := ones(x), x.Len()
		for i := -2; i < n+3; i++ {
			for j := -2; j < n+3; j++ {
				from, to := min(max(i, 0), n), min(max(j, 0), n)
				is(t, "Delete", x.Delete(i, j), slices.Concat(bits[:from], bits[max(from, to):]))
			}
		}
	})
}

func TestP4_2Insert(t *testing.T) {
	var texts []piece.Text
	rows(3, func(l []arena.Span) { texts = append(texts, piece.Of(l...)) })
	for _, x := range texts {
		for _, y := range texts[:60] {
			for at := -2; at < x.Len()+3; at++ {
				place := min(max(at, 0), x.Len())
				bits := ones(x)
				is(t, "Insert", x.Insert(at, y), slices.Concat(bits[:place], ones(y), bits[place:]))
			}
		}
	}
}

func TestP4_2Concat(t *testing.T) {
	var texts []piece.Text
	rows(2, func(l []arena.Span) { texts = append(texts, piece.Of(l...)) })
	is(t, "Concat of nothing", piece.Concat(), nil)
	for _, x := range texts {
		is(t, "Concat of one", piece.Concat(x), ones(x))
		for _, y := range texts {
			is(t, "Concat", piece.Concat(x, y), slices.Concat(ones(x), ones(y)))
			is(t, "Concat of three", piece.Concat(y, x, y), slices.Concat(ones(y), ones(x), ones(y)))
		}
	}
}

func TestP4_2NeverChanges(t *testing.T) {
	rows(3, func(l []arena.Span) {
		x, y := piece.Of(l...), piece.Of(arena.Span{At: 2, N: 1}, arena.Span{At: 9, N: 1})
		was, bits := x.Spans(), ones(x)
		n := x.Len()
		for at := range n + 1 {
			x.Insert(at, y)
			x.Delete(at, at+1)
			piece.Concat(x.Slice(0, at), y)
			piece.Concat(x.Slice(at, n), x)
			one, two := piece.Concat(x, y), piece.Concat(x, piece.Of(arena.Span{At: 7, N: 1}))
			is(t, "one of two", one, slices.Concat(bits, ones(y)))
			is(t, "the other one", two, append(slices.Clone(bits), arena.Span{At: 7, N: 1}))
		}
		if !slices.Equal(x.Spans(), was) {
			t.Fatal("a text has changed", was, x.Spans())
		}
	})
}

func TestP4_2FarPlaces(t *testing.T) {
	x := piece.Of(arena.Span{At: 3, N: 2}, arena.Span{At: 9, N: 2})
	y := piece.Of(arena.Span{At: 1, N: 1})
	for _, far := range []int{math.MaxInt, math.MaxInt - 1, 1 << 40, 5} {
		is(t, "Slice", x.Slice(math.MinInt, far), ones(x))
		is(t, "Slice", x.Slice(1, far), ones(x)[1:])
		is(t, "Slice", x.Slice(far, math.MinInt), nil)
		is(t, "Slice", x.Slice(far, far), nil)
		is(t, "Delete", x.Delete(math.MinInt, far), nil)
		is(t, "Delete", x.Delete(3, far), ones(x)[:3])
		is(t, "Delete", x.Delete(far, math.MinInt), ones(x))
		is(t, "Insert", x.Insert(far, y), append(ones(x), ones(y)...))
		is(t, "Insert", x.Insert(math.MinInt, y), append(ones(y), ones(x)...))
		is(t, "Insert", x.Insert(-far, y), append(ones(y), ones(x)...))
	}
}

func TestP4_3Flat(t *testing.T) {
	a := fresh(t)
	rows(4, func(l []arena.Span) {
		x := piece.Of(l...)
		var want []byte
		for _, s := range l {
			want = append(want, a.Bytes(s)...)
		}
		flat := x.Flat(a)
		if !bytes.Equal(flat, want) {
			t.Fatalf("Flat of %v: %q", l, flat)
		}
		for i := -2; i < len(want)+3; i++ {
			c, ok := x.Byte(a, i)
			if in := i >= 0 && i < len(want); ok != in || in && c != want[i] || !in && c != 0 {
				t.Fatalf("Byte %d of %v: %d %v", i, l, c, ok)
			}
		}
		clear(flat)
		if !bytes.Equal(x.Flat(a), want) {
			t.Fatal("an answer is the arena's own memory")
		}
	})
	x := piece.Of(arena.Span{N: 2})
	for _, i := range []int{math.MinInt, math.MaxInt} {
		if c, ok := x.Byte(a, i); c != 0 || ok {
			t.Error(i, c, ok)
		}
	}
}

func TestP4_3NextPrev(t *testing.T) {
	a := fresh(t)
	// Characters that are cut by a span's end, and put together by others.
	for _, l := range [][]arena.Span{
		nil,
		{{N: len(file)}},
		{{At: 2, N: 1}, {At: 2, N: 2}, {At: 3, N: 1}},
		{{At: 6, N: 2}, {At: 2, N: 1}, {At: 1, N: 1}},
		{{At: len(file) - 4, N: 2}, {At: 0, N: 1}, {At: len(file) - 2, N: 2}},
		{{At: 2, N: 1}, {At: len(file) - 1, N: 1}, {At: len(file) - 4, N: 3}, {At: 3, N: 1}},
	} {
		x := piece.Of(l...)
		flat := x.Flat(a)
		for _, at := range []int{math.MinInt, -1, 0, 1, 2, 3, 4, 5, 6, 7, 8, 9, 10, 11, 12, 13, 14, 15, 16, 17, math.MaxInt} {
			if got, want := x.Next(a, at), utf.Next(flat, at); got != want {
				t.Errorf("Next %d of %q: %d, not %d", at, flat, got, want)
			}
			if got, want := x.Prev(a, at), utf.Prev(flat, at); got != want {
				t.Errorf("Prev %d of %q: %d, not %d", at, flat, got, want)
			}
		}
	}
	x := piece.Of(arena.Span{At: 2, N: 1}, arena.Span{At: 0, N: 1}, arena.Span{At: 2, N: 2})
	if x.Next(a, 2) != 4 || x.Prev(a, 4) != 2 || x.Next(a, 0) != 1 {
		t.Error("a\u00e4 behind half a character", x.Next(a, 2), x.Prev(a, 4))
	}
}

// scattered is a text of n spans.
func scattered(n int) piece.Text {
	var l []arena.Span
	for k := range n {
		l = append(l, arena.Span{At: 2 - 2*(k%2), N: 1})
	}
	return piece.Of(l...)
}

func TestP4_3Tidy(t *testing.T) {
	for _, n := range []int{0, 1, 2, 31, 32} {
		a := fresh(t)
		x := scattered(n)
		y, err := x.Tidy(a)
		if err != api.OK || !piece.Same(x, y) || a.Len() != len(file) {
			t.Error(n, "spans", y.Spans(), err)
		}
	}
	for _, n := range []int{33, 34, 500, 1000} {
		a := fresh(t)
		x := scattered(n)
		flat := x.Flat(a)
		y, err := x.Tidy(a)
		want := []arena.Span{{At: len(file), N: n}}
		if err != api.OK || !slices.Equal(y.Spans(), want) || !bytes.Equal(y.Flat(a), flat) || !bytes.Equal(x.Flat(a), flat) {
			t.Error(n, "spans", y.Spans(), err)
		}
		// Its bytes stand in the arena now, so the same ones are kept.
		again, err := scattered(n).Tidy(a)
		if err != api.OK || !piece.Same(again, y) || a.Len() != len(file)+n {
			t.Error("again", again.Spans(), err, a.Len())
		}
	}
}

func TestP4_3TidyFull(t *testing.T) {
	a := fresh(t)
	a.Add(bytes.Repeat([]byte("x"), a.Room()-32))
	if y, err := scattered(33).Tidy(a); err != api.ErrFull || !piece.Same(y, piece.Text{}) || a.Room() != 32 {
		t.Error("no room", y.Spans(), err)
	}
	if y, err := scattered(32).Tidy(a); err != api.OK || !piece.Same(y, scattered(32)) {
		t.Error("few spans need no room", y.Spans(), err)
	}
	// More bytes than any arena has: each span lies in it, many times.
	var l []arena.Span
	for range 40 {
		l = append(l, arena.Span{At: 100, N: 4000})
	}
	if y, err := piece.Of(l...).Tidy(a); err != api.ErrFull || !piece.Same(y, piece.Text{}) {
		t.Error("more than an arena has", y.Spans(), err)
	}
	if y, err := scattered(33).Tidy(nil); err == api.OK || !piece.Same(y, piece.Text{}) {
		// Of no arena there are no bytes; there is nobody who could keep them.
		t.Error("of a nil arena", y.Spans(), err)
	}
}

func TestP4_4PutTogether(t *testing.T) {
	a := fresh(t)
	var texts []piece.Text
	rows(2, func(l []arena.Span) { texts = append(texts, piece.Of(l...)) })
	for _, x := range texts {
		for _, y := range texts {
			for at := range x.Len() + 1 {
				flat, other := string(x.Flat(a)), string(y.Flat(a))
				put := x.Insert(at, y)
				if string(put.Flat(a)) != flat[:at]+other+flat[at:] {
					t.Fatal("Insert", x, at, y)
				}
				if back := put.Delete(at, at+y.Len()); !piece.Same(back, x) {
					t.Fatal("inserted and deleted again", x, at, y, back)
				}
				if got := put.Slice(at, at+y.Len()); !piece.Same(got, y) {
					t.Fatal("what was inserted", x, at, y, got)
				}
				if string(piece.Concat(x, y).Flat(a)) != flat+other {
					t.Fatal("Concat", x, y)
				}
				if string(x.Slice(at, x.Len()).Flat(a)) != flat[at:] || string(x.Delete(at, x.Len()).Flat(a)) != flat[:at] {
					t.Fatal("Slice, Delete", x, at)
				}
			}
		}
	}
}

func TestP1WrongSpans(t *testing.T) {
	a := fresh(t)
	numbers := []int{math.MinInt, -1, 0, 1, 5, 1 << 40, math.MaxInt}
	var l []arena.Span
	for _, at := range numbers {
		for _, n := range numbers {
			l = append(l, arena.Span{At: at, N: n})
		}
	}
	for _, some := range [][]arena.Span{l, l[20:], l[:30], l[40:]} {
		for _, x := range []piece.Text{piece.Of(some...), piece.Of(some[0])} {
			for _, i := range numbers {
				for _, j := range numbers {
					x.Slice(i, j)
					x.Delete(i, j)
				}
				x.Insert(i, x)
				x.Byte(a, i)
				x.Byte(nil, i)
				x.Next(a, i)
				x.Prev(nil, i)
			}
			x.Flat(nil)
			x.Flat(a)
			x.Tidy(a)
			x.Tidy(nil)
		}
	}
	if x := scattered(1 << 10); x.Len() != 1<<10 || len(x.Spans()) != 1<<10 {
		t.Error("many spans", x.Len())
	}
}

func TestP4Example(t *testing.T) {
	x := piece.Of(arena.Span{At: 0, N: 2}, arena.Span{At: 2, N: 3})
	if !slices.Equal(x.Spans(), []arena.Span{{At: 0, N: 5}}) {
		t.Error(x.Spans())
	}
}
