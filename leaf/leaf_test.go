package leaf_test

import (
	"math"
	"slices"
	"testing"

	"damier/leaf"
)

// some are the numbers of these tests' short steps: the least one, the greatest one, and some between.
func some() []int {
	return []int{0, math.MaxInt, -1, math.MinInt}
}

// asked are numbers that are asked for: those that may wait, and others.
func asked() []int {
	return append(some(), 1, 7, -7, 50, math.MinInt+1, math.MaxInt-1)
}

// model is what a queue has by the words: each number once, rising.
type model []int

func (m *model) put(n int) bool {
	if slices.Contains(*m, n) {
		return false
	}
	*m = append(*m, n)
	slices.Sort(*m)
	return true
}

func (m *model) drop(n int) bool {
	at := slices.Index(*m, n)
	if at < 0 {
		return false
	}
	*m = slices.Delete(*m, at, at+1)
	return true
}

// first tells the first number that is not one of some.
func (m model) first(but ...int) (int, bool) {
	for _, n := range m {
		if !slices.Contains(but, n) {
			return n, true
		}
	}
	return 0, false
}

// is says so, if a queue tells anything else than the words have it; it asks twice, as nothing is changed by asking.
func is(t *testing.T, what string, q *leaf.Queue, m model) {
	t.Helper()
	for range 2 {
		if q.Len() != len(m) || !slices.Equal(q.All(), m) {
			t.Fatalf("%s: %d of %v, not %v", what, q.Len(), q.All(), m)
		}
		top, ok := q.Top()
		if want, there := m.first(); top != want || ok != there {
			t.Fatalf("%s: of %v the top is %d %v", what, m, top, ok)
		}
		for _, n := range append(asked(), m...) {
			if q.Has(n) != slices.Contains(m, n) {
				t.Fatalf("%s: %v has %d: %v", what, m, n, q.Has(n))
			}
			other, ok := q.Other(n)
			if want, there := m.first(n); other != want || ok != there {
				t.Fatalf("%s: of %v other than %d: %d %v, not %d %v", what, m, n, other, ok, want, there)
			}
		}
	}
}

// step is one call that changes a queue.
type step struct {
	call string
	n    int
}

// does does a step to a queue, and says so, if it tells anything else than the words have it.
func does(t *testing.T, s step, q *leaf.Queue, m *model) {
	t.Helper()
	was := slices.Clone(*m)
	got, ok, want, there := 0, false, 0, false
	switch s.call {
	case "Put":
		ok, there = q.Put(s.n), m.put(s.n)
	case "Drop":
		ok, there = q.Drop(s.n), m.drop(s.n)
	case "Pop":
		got, ok = q.Pop()
		want, there = m.first()
		m.drop(want)
	}
	if got != want || ok != there {
		t.Fatalf("%s %d of %v: %d %v, not %d %v", s.call, s.n, was, got, ok, want, there)
	}
}

// eachList hands over all lists of up to so many things of some.
func eachList[T any](most int, some []T, f func(l []T)) {
	var grow func(l []T)
	grow = func(l []T) {
		f(l)
		for i := 0; i < len(some) && len(l) < most; i++ {
			grow(append(slices.Clone(l), some[i]))
		}
	}
	grow(nil)
}

// mixed tells n numbers from 0 to ahead of most that come in no order.
func mixed(n, most int) []int {
	l, x := make([]int, n), uint32(n)
	for i := range l {
		x = x*1664525 + 1013904223
		l[i] = int(x>>8) % most
	}
	return l
}

// long are longer lists: rising, falling, by turns from both ends, mixed, and with numbers that come again.
func long() [][]int {
	const n = 200
	l := make([][]int, 3)
	for i := range n {
		l[0] = append(l[0], i)
		l[1] = append(l[1], -i)
		l[2] = append(l[2], (i%2*2-1)*(n-i))
	}
	return append(l, mixed(n, 1<<20), mixed(n, 50), mixed(n, 2))
}

// each hands over all short lists of the numbers of these tests, and longer ones.
func each(f func(l []int)) {
	eachList(5, some(), f)
	for _, l := range long() {
		f(l)
	}
}

// unlike tells each number of a list once, rising.
func unlike(l []int) model {
	var m model
	for _, n := range l {
		m.put(n)
	}
	return m
}

func TestP20_1New(t *testing.T) {
	each(func(l []int) {
		old := slices.Clone(l)
		is(t, "New", leaf.New(l...), unlike(l))
		if !slices.Equal(l, old) {
			t.Fatalf("%v became %v", old, l)
		}
	})
	is(t, "New of none", leaf.New(), nil)
	is(t, "New of one", leaf.New(3), model{3})
	is(t, "New of one twice", leaf.New(3, 3), model{3})
}

func TestP20_1PutDrop(t *testing.T) {
	var steps []step
	for _, n := range some() {
		steps = append(steps, step{"Put", n}, step{"Drop", n})
	}
	steps = append(steps, step{call: "Pop"})
	eachList(5, steps, func(l []step) {
		q, m := leaf.New(), model{}
		for _, s := range l {
			does(t, s, q, &m)
		}
		is(t, "short steps", q, m)
	})
}

func TestP20_1LongSteps(t *testing.T) {
	q, m := leaf.New(), model{}
	numbers := mixed(6000, 60)
	for i, kind := range mixed(6000, 1000) {
		// By turns more numbers come, and more go.
		s := step{"Put", numbers[i]}
		switch less := 300 + 400*(i/500%2); {
		case kind < less/5:
			s.call = "Pop"
		case kind < less:
			s.call = "Drop"
		}
		does(t, s, q, &m)
		is(t, "long steps", q, m)
	}
}

// Each number in turn goes out of the midst of a list.
func TestP20_1DropOfMany(t *testing.T) {
	for _, l := range long() {
		for _, n := range l {
			q, m := leaf.New(l...), unlike(l)
			does(t, step{"Drop", n}, q, &m)
			does(t, step{"Drop", n}, q, &m)
			if top, _ := q.Top(); len(m) > 0 && top != m[0] {
				t.Fatalf("%v without %d: %d on top", l, n, top)
			}
			if !slices.Equal(q.All(), m) {
				t.Fatalf("%v without %d: %v", l, n, q.All())
			}
			does(t, step{"Put", n}, q, &m)
			does(t, step{"Pop", 0}, q, &m)
			if !slices.Equal(q.All(), m) {
				t.Fatalf("%v with %d again, and popped: %v", l, n, q.All())
			}
		}
	}
}

func TestP20_2OfFew(t *testing.T) {
	for _, x := range []struct {
		l          []int
		n          int
		top, other int
		ok         bool
	}{
		{[]int{4}, 4, 4, 0, false},
		{[]int{4}, 5, 4, 4, true},
		{[]int{4, 6}, 4, 4, 6, true},
		{[]int{4, 6}, 6, 4, 4, true},
		{[]int{1, 9, 3}, 1, 1, 3, true},
		{[]int{1, 3, 9}, 1, 1, 3, true},
		{[]int{1, 3, 9}, 3, 1, 1, true},
		{[]int{math.MinInt, math.MaxInt}, math.MinInt, math.MinInt, math.MaxInt, true},
		{[]int{0}, 0, 0, 0, false},
	} {
		q := leaf.New(x.l...)
		top, there := q.Top()
		other, ok := q.Other(x.n)
		if top != x.top || !there || other != x.other || ok != x.ok {
			t.Errorf("%v: on top %d %v, other than %d: %d %v", x.l, top, there, x.n, other, ok)
		}
	}
}

func TestP20_3Popped(t *testing.T) {
	each(func(l []int) {
		q, want := leaf.New(l...), unlike(l)
		var got []int
		for {
			n, ok := q.Pop()
			if !ok {
				break
			}
			if q.Has(n) {
				t.Fatalf("%v: %d was popped, and waits", l, n)
			}
			got = append(got, n)
		}
		if !slices.Equal(got, want) {
			t.Fatalf("%v: popped %v", l, got)
		}
		is(t, "popped", q, nil)
		does(t, step{"Put", 7}, q, &model{})
	})
}

// Many numbers come, half of them go from wherever they stand, and the others from the top.
func TestP20_3Many(t *testing.T) {
	const n = 1 << 17
	q := leaf.New()
	for i := range n {
		q.Put(i * 7919 % n)
	}
	for i := 0; i < n; i += 2 {
		if !q.Drop(i * 7919 % n) {
			t.Fatalf("%d does not wait", i*7919%n)
		}
	}
	last := math.MinInt
	for range n / 2 {
		x, ok := q.Pop()
		if !ok || x <= last {
			t.Fatalf("%d behind %d", x, last)
		}
		last = x
	}
	is(t, "many", q, nil)
}

func TestP1NilQueue(t *testing.T) {
	var q *leaf.Queue
	for _, n := range asked() {
		if q.Put(n) || q.Drop(n) {
			t.Errorf("%d was put into no queue, or went", n)
		}
		if x, ok := q.Pop(); x != 0 || ok {
			t.Errorf("popped %d %v", x, ok)
		}
		is(t, "nil", q, nil)
	}
}

// A queue that New did not make is one without numbers.
func TestP1MadeByHand(t *testing.T) {
	for _, s := range []step{{"Drop", 3}, {"Pop", 0}, {"Put", 3}} {
		q, m := &leaf.Queue{}, model{}
		is(t, "the zero queue", q, nil)
		does(t, s, q, &m)
		does(t, step{"Put", 2}, q, &m)
		is(t, "the zero queue with one", q, m)
	}
	eachList(4, []step{{"Put", 1}, {"Put", 2}, {"Drop", 1}, {"Drop", 9}, {"Pop", 0}}, func(l []step) {
		for _, q := range []*leaf.Queue{{}, leaf.New(1, 5, 9)} {
			copied := *q
			for i, s := range l {
				// By turns to the one and to the other: whatever they tell, nothing panics.
				one := []*leaf.Queue{q, &copied}[i%2]
				switch s.call {
				case "Put":
					one.Put(s.n)
				case "Drop":
					one.Drop(s.n)
				case "Pop":
					one.Pop()
				}
				for _, x := range []*leaf.Queue{q, &copied} {
					if x.Len() != len(x.All()) || !slices.IsSorted(x.All()) {
						t.Fatalf("a copied queue has %d of %v", x.Len(), x.All())
					}
					x.Other(1)
				}
			}
		}
	})
}

func TestP1OwnMemory(t *testing.T) {
	l := []int{5, 2, 9, 7}
	q, m := leaf.New(l...), unlike(l)
	clear(l)
	is(t, "what New was handed was written into", q, m)
	all := q.All()
	_ = append(all[:1], -1, -1, -1, -1)
	clear(all)
	is(t, "what All told was written into", q, m)
	other := leaf.New(1)
	other.Put(0)
	is(t, "another one was changed", q, m)
}

func TestP20Example(t *testing.T) {
	q := leaf.New(5, 2, 9)
	if n, ok := q.Top(); n != 2 || !ok {
		t.Errorf("Top %d %v", n, ok)
	}
	if n, ok := q.Other(2); n != 5 || !ok {
		t.Errorf("Other(2) %d %v", n, ok)
	}
	if l := q.All(); !slices.Equal(l, []int{2, 5, 9}) {
		t.Errorf("All %v", l)
	}
}
