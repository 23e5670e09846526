package feed_test

import (
	"math"
	"slices"
	"testing"

	"damier/api"
	"damier/feed"
)

// model is a feed by the words.
type model struct {
	room, fuel int
	typed      []int
	packs      [][]int
}

// next tells what Next tells by the words.
func (m *model) next() (int, bool, api.Errno) {
	last := len(m.packs) - 1
	switch {
	case last >= 0 && m.fuel == 0:
		m.packs = nil
		return 0, false, api.ErrFuel
	case last >= 0:
		k := m.packs[last][0]
		m.packs[last] = m.packs[last][1:]
		m.packs = slices.DeleteFunc(m.packs, func(l []int) bool { return len(l) == 0 })
		m.fuel--
		return k, true, api.OK
	case len(m.typed) == 0:
		return 0, false, api.ErrNone
	}
	k := m.typed[0]
	m.typed = m.typed[1:]
	m.fuel = api.MaxFuel
	return k, false, api.OK
}

// push tells what Push tells by the words.
func (m *model) push(l []int) api.Errno {
	switch {
	case len(l) > api.MaxMacro:
		return api.ErrLong
	case len(l) == 0:
		return api.OK
	case len(m.packs) == feed.Deep:
		return api.ErrFull
	}
	m.packs = append(m.packs, slices.Clone(l))
	return api.OK
}

// put tells what Type tells by the words.
func (m *model) put(k int) bool {
	if len(m.typed) == m.room {
		return false
	}
	m.typed = append(m.typed, k)
	return true
}

// drop tells what Drop tells by the words.
func (m *model) drop() int {
	n := len(slices.Concat(m.packs...))
	m.packs = nil
	return n
}

// both are a feed, and its model. Each key that comes in has another number.
type both struct {
	f     *feed.Feed
	m     *model
	count int
}

func newBoth(room int) *both {
	return &both{f: feed.New(room), m: &model{room: room, fuel: api.MaxFuel}}
}

// keys tells n keys that there were not yet.
func (b *both) keys(n int) []int {
	l := make([]int, n)
	for i := range l {
		b.count++
		l[i] = b.count
	}
	return l
}

// Calls that change a feed; numbers from 0 on stand for Push of so many keys.
const (
	put = -1 - iota
	next
	drop
)

// does does a call to a feed, and says so, if it tells anything else than the words have it, or leaves it otherwise.
func (b *both) does(t *testing.T, what any, call int) {
	t.Helper()
	switch call {
	case put:
		k := b.keys(1)[0]
		if got, want := b.f.Type(k), b.m.put(k); got != want {
			t.Fatalf("%v: Type: %v, not %v", what, got, want)
		}
	case next:
		k, pushed, err := b.f.Next()
		wantK, wantPushed, wantErr := b.m.next()
		if k != wantK || pushed != wantPushed || err != wantErr {
			t.Fatalf("%v: Next: %d %v %d, not %d %v %d", what, k, pushed, err, wantK, wantPushed, wantErr)
		}
	case drop:
		if got, want := b.f.Drop(), b.m.drop(); got != want {
			t.Fatalf("%v: Drop: %d, not %d", what, got, want)
		}
	default:
		l := b.keys(call)
		if got, want := b.f.Push(l), b.m.push(l); got != want {
			t.Fatalf("%v: Push of %d keys: %d, not %d", what, call, got, want)
		}
	}
	b.is(t, what)
}

// is says so, if a feed does not stand as the words have it.
func (b *both) is(t *testing.T, what any) {
	t.Helper()
	if b.f.Waits() != len(b.m.typed) || b.f.Packs() != len(b.m.packs) || b.f.Fuel() != b.m.fuel {
		t.Fatalf("%v: %d wait, %d packs, fuel %d; not %d, %d, %d", what, b.f.Waits(), b.f.Packs(), b.f.Fuel(), len(b.m.typed), len(b.m.packs), b.m.fuel)
	}
}

// ends takes all keys out that a feed yet has.
func (b *both) ends(t *testing.T, what any) {
	t.Helper()
	for len(b.m.typed)+len(b.m.packs) > 0 {
		b.does(t, what, next)
	}
	b.does(t, what, next)
}

// eachList hands over all lists of up to so many things of some.
func eachList[T any](most int, some []T, f func(l []T)) {
	var grow func(l []T)
	grow = func(l []T) {
		f(l)
		for i := 0; i < len(some) && len(l) < most; i++ {
			grow(append(slices.Clone(l), some[i]))
		}
	}
	grow(nil)
}

// mixed tells n numbers from 0 to ahead of most that come in no order.
func mixed(n, most int) []int {
	l, x := make([]int, n), uint32(n)
	for i := range l {
		x = x*1664525 + 1013904223
		l[i] = int(x>>8) % most
	}
	return l
}

func TestP23_1New(t *testing.T) {
	if feed.Deep != 8 {
		t.Errorf("%d packs", feed.Deep)
	}
	newBoth(1).is(t, "new")
	one, other := feed.New(3), feed.New(3)
	one.Type(1)
	one.Push([]int{2})
	if other.Waits() != 0 || other.Packs() != 0 {
		t.Error("two feeds are one")
	}
}

func TestP23_1Room(t *testing.T) {
	for _, x := range []struct{ room, want int }{
		{1, 1}, {2, 2}, {7, 7}, {999, 999}, {1000, 1000},
		{1001, 1000}, {1 << 31, 1000}, {1 << 40, 1000}, {math.MaxInt, 1000}, {0, 1}, {-1, 1}, {-1000, 1}, {math.MinInt, 1},
	} {
		f := feed.New(x.room)
		n := 0
		for f.Type(n) {
			n++
		}
		if n != x.want || f.Waits() != n || f.Type(n) {
			t.Errorf("of the room %d: %d wait", x.room, n)
		}
		for i := range n {
			if k, pushed, err := f.Next(); k != i || pushed || err != api.OK {
				t.Fatalf("of the room %d: %d %v %d, not %d", x.room, k, pushed, err, i)
			}
			if i == 0 && (!f.Type(n) || f.Type(n+1)) {
				t.Fatalf("of the room %d: one came, and there is no room, or for two", x.room)
			}
		}
		if k, _, err := f.Next(); k != n || err != api.OK {
			t.Errorf("of the room %d: the last one is %d %d", x.room, k, err)
		}
	}
}

// Any number may be typed and pushed: what is a key is no matter of a feed.
func TestP23_1AnyNumber(t *testing.T) {
	f := feed.New(10)
	some := []int{0, -1, -6, -7, 27, 0xD800, math.MinInt, math.MaxInt}
	for _, k := range some {
		if !f.Type(k) {
			t.Errorf("%d is refused", k)
		}
	}
	if err := f.Push(some); err != api.OK {
		t.Errorf("Push: %d", err)
	}
	for i, k := range append(some, some...) {
		if got, pushed, err := f.Next(); got != k || pushed != (i < len(some)) || err != api.OK {
			t.Errorf("%d: %d %v %d, not %d", i, got, pushed, err, k)
		}
	}
}

func TestP23_1Long(t *testing.T) {
	for _, n := range []int{api.MaxMacro - 1, api.MaxMacro, api.MaxMacro + 1, 1000} {
		for packs := range feed.Deep + 1 {
			b := newBoth(1)
			for range packs {
				b.does(t, "one", 1)
			}
			b.does(t, []any{"long", n, packs}, n)
			b.ends(t, []any{"long", n, packs})
		}
	}
	// Of several errors the first one, and of no keys none.
	f := feed.New(1)
	for range feed.Deep {
		f.Push([]int{1})
	}
	if long, none, one := f.Push(make([]int, api.MaxMacro+1)), f.Push(nil), f.Push([]int{1}); long != api.ErrLong || none != api.OK || one != api.ErrFull || f.Push([]int{}) != api.OK {
		t.Errorf("of a full feed: %d %d %d", long, none, one)
	}
	if f.Packs() != feed.Deep {
		t.Errorf("%d packs", f.Packs())
	}
}

// What was typed comes behind all packs, the last one of these first.
func TestP23_2Order(t *testing.T) {
	f := feed.New(3)
	f.Type(1)
	f.Push([]int{2, 3})
	f.Push([]int{4, 5, 6})
	f.Type(7)
	var got []int
	for _, want := range []int{4, 5} {
		if k, _, _ := f.Next(); k != want {
			t.Errorf("%d, not %d", k, want)
		}
	}
	f.Push([]int{8})
	f.Type(9)
	for f.Packs()+f.Waits() > 0 {
		k, pushed, err := f.Next()
		if pushed != (k != 1 && k != 7 && k != 9) || err != api.OK {
			t.Errorf("%d: %v %d", k, pushed, err)
		}
		got = append(got, k)
	}
	if want := []int{8, 6, 2, 3, 1, 7, 9}; !slices.Equal(got, want) {
		t.Errorf("%v, not %v", got, want)
	}
	if k, pushed, err := f.Next(); k != 0 || pushed || err != api.ErrNone {
		t.Errorf("of none: %d %v %d", k, pushed, err)
	}
}

// burn lets n keys of packs come.
func burn(t *testing.T, f *feed.Feed, n int) {
	t.Helper()
	for range n {
		if f.Packs() == 0 {
			f.Push(make([]int, api.MaxMacro))
		}
		if _, pushed, err := f.Next(); !pushed || err != api.OK {
			t.Fatalf("%v %d", pushed, err)
		}
	}
}

func TestP23_2Fuel(t *testing.T) {
	f := feed.New(2)
	f.Type(1)
	burn(t, f, api.MaxFuel)
	if f.Fuel() != 0 || f.Packs() != 0 {
		t.Fatalf("fuel %d, %d packs", f.Fuel(), f.Packs())
	}
	f.Push([]int{2, 3})
	f.Push([]int{4})
	if k, pushed, err := f.Next(); k != 0 || pushed || err != api.ErrFuel || f.Packs() != 0 || f.Fuel() != 0 || f.Waits() != 1 {
		t.Errorf("without fuel: %d %v %d; %d packs, fuel %d, %d wait", k, pushed, err, f.Packs(), f.Fuel(), f.Waits())
	}
	// No key that only waits, and nothing that is dropped, brings fuel.
	f.Type(5)
	f.Push([]int{6})
	if n := f.Drop(); n != 1 || f.Fuel() != 0 {
		t.Errorf("%d dropped, fuel %d", n, f.Fuel())
	}
	if k, pushed, err := f.Next(); k != 1 || pushed || err != api.OK || f.Fuel() != api.MaxFuel {
		t.Errorf("typed: %d %v %d, fuel %d", k, pushed, err, f.Fuel())
	}
	burn(t, f, 7)
	if f.Fuel() != api.MaxFuel-7 {
		t.Errorf("fuel %d", f.Fuel())
	}
	f.Drop()
	if f.Next(); f.Fuel() != api.MaxFuel {
		t.Errorf("fuel %d", f.Fuel())
	}
	burn(t, f, api.MaxFuel-1)
	f.Drop()
	f.Push([]int{7})
	if k, pushed, err := f.Next(); k != 7 || !pushed || err != api.OK || f.Fuel() != 0 {
		t.Errorf("the last one: %d %v %d, fuel %d", k, pushed, err, f.Fuel())
	}
	if k, pushed, err := f.Next(); k != 0 || pushed || err != api.ErrNone || f.Fuel() != 0 {
		t.Errorf("no key and no fuel: %d %v %d", k, pushed, err)
	}
}

// All short rows of calls.
func TestP23ShortRows(t *testing.T) {
	calls := []int{put, next, drop, 0, 1, 2, api.MaxMacro + 1}
	for _, room := range []int{1, 2} {
		eachList(6, calls, func(l []int) {
			b := newBoth(room)
			for _, call := range l {
				b.does(t, l, call)
			}
			b.ends(t, l)
		})
	}
}

// All short rows of calls, from feeds on that are full, or near it, and of little fuel.
func TestP23FullRows(t *testing.T) {
	for packs := feed.Deep - 2; packs <= feed.Deep; packs++ {
		for fuel := range 3 {
			begun := slices.Concat([]int{put}, []int{api.MaxMacro, api.MaxMacro}, slices.Repeat([]int{next}, api.MaxFuel-fuel), []int{drop}, slices.Repeat([]int{2}, packs))
			eachList(3, []int{put, next, drop, 0, 1, 2}, func(l []int) {
				b := newBoth(2)
				for _, call := range slices.Concat(begun, l) {
					b.does(t, []any{packs, fuel, l}, call)
				}
				b.ends(t, []any{packs, fuel, l})
			})
		}
	}
}

// Long rows of calls of all kinds.
func TestP23LongRow(t *testing.T) {
	for _, room := range []int{1, 5, 40} {
		for _, calls := range [][]int{
			{put, next, next, 1, 3, 0, drop},
			{put, next, next, next, 40, api.MaxMacro, 1, 2, 3, 0, api.MaxMacro + 1},
			{put, put, next, 5, next, next},
		} {
			b := newBoth(room)
			for i, x := range mixed(20000, len(calls)) {
				b.does(t, []any{room, calls, i}, calls[x])
			}
			b.ends(t, "the end")
		}
	}
}

func TestP23_3Drop(t *testing.T) {
	b := newBoth(3)
	for _, call := range []int{drop, put, put, drop, 5, 1, 7, next, next, drop, drop, 3, next, next, next, drop, next} {
		b.does(t, "drop", call)
	}
	for range feed.Deep {
		b.does(t, "full", api.MaxMacro)
	}
	if n := b.f.Drop(); n != feed.Deep*api.MaxMacro || b.f.Drop() != 0 || b.f.Packs() != 0 || b.f.Waits() != 1 {
		t.Errorf("%d dropped; %d packs, %d wait", n, b.f.Packs(), b.f.Waits())
	}
}

func TestP23_4(t *testing.T) {
	f := feed.New(30)
	typed, came, since := 0, 0, 0
	for _, x := range mixed(50000, 40) {
		switch {
		case x == 0:
			if f.Type(typed + 1) {
				typed++
			}
		case x < 8:
			f.Push(slices.Repeat([]int{-1}, x*20))
		default:
			k, pushed, err := f.Next()
			switch {
			case err != api.OK:
			case pushed:
				since++
			case k != came+1:
				t.Fatalf("%d came behind %d", k, came)
			default:
				came, since = k, 0
			}
			if since > api.MaxFuel {
				t.Fatalf("%d keys without one that was typed", since)
			}
		}
	}
	if came < 30 {
		t.Errorf("%d came of %d", came, typed)
	}
}

// What is handed in is not kept.
func TestP23_1OwnMemory(t *testing.T) {
	f := feed.New(1)
	l := []int{1, 2, 3}
	f.Push(l)
	f.Push(l[:2:2])
	if !slices.Equal(l, []int{1, 2, 3}) {
		t.Errorf("became %v", l)
	}
	clear(l)
	for _, want := range []int{1, 2, 1, 2, 3} {
		if k, _, _ := f.Next(); k != want {
			t.Errorf("%d, not %d", k, want)
		}
	}
}

func TestP1NilFeed(t *testing.T) {
	var f *feed.Feed
	if f.Type(1) {
		t.Error("Type")
	}
	for _, l := range [][]int{nil, {1}, make([]int, api.MaxMacro+1)} {
		if err := f.Push(l); err != api.ErrNil {
			t.Errorf("Push of %d keys: %d", len(l), err)
		}
	}
	if k, pushed, err := f.Next(); k != 0 || pushed || err != api.ErrNil {
		t.Errorf("Next: %d %v %d", k, pushed, err)
	}
	if f.Waits() != 0 || f.Packs() != 0 || f.Fuel() != 0 || f.Drop() != 0 {
		t.Errorf("%d wait, %d packs, fuel %d", f.Waits(), f.Packs(), f.Fuel())
	}
}

// asked does all calls to a feed of which nothing more is promised than that they end.
func asked(f *feed.Feed) {
	for _, n := range []int{0, 1, 2, api.MaxMacro + 1, 1} {
		f.Type(n)
		f.Push(make([]int, n))
		f.Next()
		f.Waits()
		f.Packs()
		f.Fuel()
	}
	f.Drop()
}

func TestP1MadeByHand(t *testing.T) {
	asked(&feed.Feed{})
	asked(new(feed.Feed))
	// One that is copied, and both asked by turns.
	f := feed.New(2)
	f.Type(1)
	f.Push([]int{2, 3})
	other := *f
	for range 2 * api.MaxFuel {
		f.Next()
		other.Push([]int{1, 2})
		f.Next()
		other.Next()
		f.Type(3)
	}
	asked(&other)
	asked(f)
}

func TestP23Example(t *testing.T) {
	f := feed.New(1)
	f.Type(1)
	f.Push([]int{7, 8})
	for i, want := range []int{7, 8, 1} {
		if k, pushed, err := f.Next(); k != want || pushed != (i < 2) || err != api.OK {
			t.Errorf("%d %v %d, not %d", k, pushed, err, want)
		}
	}
}
