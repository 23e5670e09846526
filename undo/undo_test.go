package undo_test

import (
	"math"
	"slices"
	"testing"

	"damier/api"
	"damier/delta"
	"damier/grid"
	"damier/row"
	"damier/undo"
)

// tagged tells a delta of two edits by which it is known again, and whether it is turned.
func tagged(tag int) delta.Delta {
	return delta.Delta{{At: tag, Old: make([]row.Row, 1)}, {At: -tag, New: make([]row.Row, 2)}}
}

// tagOf tells of which tag a delta is, less than 0, if it is turned; 0, if it is nothing.
func tagOf(t *testing.T, d delta.Delta) int {
	t.Helper()
	switch {
	case len(d) == 0:
		return 0
	case len(d) == 2 && d[0].At > 0 && d[1].At == -d[0].At && len(d[0].Old) == 1 && len(d[0].New) == 0 && len(d[1].Old) == 0 && len(d[1].New) == 2:
		return d[0].At
	case len(d) == 2 && d[0].At < 0 && d[1].At == -d[0].At && len(d[0].Old) == 2 && len(d[0].New) == 0 && len(d[1].Old) == 0 && len(d[1].New) == 1:
		return d[0].At
	}
	t.Fatalf("a delta that was never added: %v", d)
	return 0
}

// tagsOf tells it of deltas.
func tagsOf(t *testing.T, way []delta.Delta) []int {
	t.Helper()
	var l []int
	for _, d := range way {
		l = append(l, tagOf(t, d))
	}
	return l
}

// stands is a state by the words: its parent, and when it was left for that, or gone to from it, or came, last.
type stands struct {
	n, parent, when int
}

// model is a tree by the words. The delta of a state has its number for its tag.
type model struct {
	states           []stands
	here, last, time int
}

// root stands for the parent of the root.
const root = -1

func newModel() *model {
	return &model{states: []stands{{0, root, 0}}}
}

// of tells the state of a number.
func (m *model) of(n int) (*stands, bool) {
	at := slices.IndexFunc(m.states, func(x stands) bool { return x.n == n })
	if at < 0 {
		return &stands{parent: root}, false
	}
	return &m.states[at], true
}

// below tells the states whose parent is n, the next one first.
func (m *model) below(n int) []stands {
	var l []stands
	for _, x := range m.states {
		if x.parent == n {
			l = append(l, x)
		}
	}
	slices.SortFunc(l, func(x, y stands) int { return y.when - x.when })
	return l
}

func (m *model) parent(n int) (int, bool) {
	x, is := m.of(n)
	if !is || x.parent == root {
		return 0, false
	}
	return x.parent, true
}

func (m *model) next(n int) (int, bool) {
	l := m.below(n)
	if _, is := m.of(n); !is || len(l) == 0 {
		return 0, false
	}
	return l[0].n, true
}

// step lets a state be left for its parent, or gone to from it, or come.
func (m *model) step(n int) {
	m.time++
	x, _ := m.of(n)
	x.when = m.time
}

func (m *model) add() int {
	m.last++
	m.states = append(m.states, stands{n: m.last, parent: m.here})
	m.here = m.last
	m.step(m.last)
	for len(m.states) > api.MaxNodes {
		m.letGo()
	}
	return m.here
}

// letGo lets the leaf of the least number go, or the root.
func (m *model) letGo() {
	for i, x := range m.states {
		if x.n == m.here || len(m.below(x.n)) > 0 {
			continue
		}
		next, _ := m.next(x.parent)
		m.states = slices.Delete(m.states, i, i+1)
		if l := m.below(x.parent); next == x.n && len(l) > 0 {
			m.step(slices.MaxFunc(l, func(x, y stands) int { return x.n - y.n }).n)
		}
		return
	}
	m.states = slices.DeleteFunc(m.states, func(x stands) bool { return x.parent == root })
	for i := range m.states {
		if _, is := m.of(m.states[i].parent); !is {
			m.states[i].parent = root
		}
	}
}

func (m *model) up() (int, bool) {
	parent, is := m.parent(m.here)
	if !is {
		return 0, false
	}
	left := m.here
	m.step(left)
	m.here = parent
	return -left, true
}

func (m *model) down() (int, bool) {
	next, is := m.next(m.here)
	if !is {
		return 0, false
	}
	m.step(next)
	m.here = next
	return next, true
}

// isUnder tells whether one comes up from n to what is here.
func (m *model) isUnder(n int) bool {
	for n != m.here && n != root {
		x, _ := m.of(n)
		n = x.parent
	}
	return n == m.here
}

func (m *model) goTo(n int) ([]int, api.Errno) {
	if _, is := m.of(n); !is {
		return nil, api.ErrNone
	}
	var way []int
	for !m.isUnder(n) {
		tag, _ := m.up()
		way = append(way, tag)
	}
	for m.here != n {
		to := n
		for x, _ := m.of(to); x.parent != m.here; x, _ = m.of(to) {
			to = x.parent
		}
		m.step(to)
		m.here = to
		way = append(way, to)
	}
	return way, api.OK
}

func (m *model) older() ([]int, bool) {
	for _, x := range slices.Backward(m.states) {
		if x.n < m.here {
			way, _ := m.goTo(x.n)
			return way, true
		}
	}
	return nil, false
}

func (m *model) newer() ([]int, bool) {
	for _, x := range m.states {
		if x.n > m.here {
			way, _ := m.goTo(x.n)
			return way, true
		}
	}
	return nil, false
}

func (m *model) numbers() []int {
	var l []int
	for _, x := range m.states {
		l = append(l, x.n)
	}
	return l
}

// is says so, if a tree tells anything else than the words have it.
func is(t *testing.T, what any, tree *undo.Tree, m *model) {
	t.Helper()
	if tree.Here() != m.here || tree.Len() != len(m.states) || !slices.Equal(tree.Numbers(), m.numbers()) {
		t.Fatalf("%v: here is %d of %d: %v, not %d of %v", what, tree.Here(), tree.Len(), tree.Numbers(), m.here, m.numbers())
	}
	for _, n := range m.numbers() {
		isAt(t, what, tree, m, n-1)
		isAt(t, what, tree, m, n)
		isAt(t, what, tree, m, n+1)
	}
	for _, n := range []int{math.MinInt, -2, m.last + 2, math.MaxInt} {
		isAt(t, what, tree, m, n)
	}
}

// isAt says so, if a tree tells anything else of the state n than the words have it.
func isAt(t *testing.T, what any, tree *undo.Tree, m *model, n int) {
	t.Helper()
	parent, has := tree.Parent(n)
	if want, there := m.parent(n); parent != want || has != there {
		t.Fatalf("%v: the parent of %d: %d %v, not %d %v", what, n, parent, has, want, there)
	}
	next, has := tree.Next(n)
	if want, there := m.next(n); next != want || has != there {
		t.Fatalf("%v: the next one of %d: %d %v, not %d %v", what, n, next, has, want, there)
	}
}

// Calls that change a tree; numbers from 0 on stand for Go.
const (
	add = -1 - iota
	up
	down
	older
	newer
	goBelow
	goFar
)

// does does a call to a tree, and says so, if it tells anything else than the words have it.
func does(t *testing.T, what any, call int, tree *undo.Tree, m *model) {
	t.Helper()
	one := func(d delta.Delta, ok bool) ([]int, bool) { return []int{tagOf(t, d)}, ok }
	oneOf := func(tag int, ok bool) ([]int, bool) { return []int{tag}, ok }
	some := func(way []delta.Delta, ok bool) ([]int, bool) { return tagsOf(t, way), ok }
	reach := func(n int) (got []int, ok bool, want []int, there bool) {
		way, err := tree.Go(n)
		want, wantErr := m.goTo(n)
		if err != wantErr {
			t.Fatalf("%v: Go(%d): %d, not %d", what, n, err, wantErr)
		}
		return tagsOf(t, way), err == api.OK, want, wantErr == api.OK
	}
	var got, want []int
	var ok, there bool
	switch call {
	case add:
		got, want = []int{tree.Add(tagged(m.last + 1))}, []int{m.add()}
	case up:
		got, ok = one(tree.Up())
		want, there = oneOf(m.up())
	case down:
		got, ok = one(tree.Down())
		want, there = oneOf(m.down())
	case older:
		got, ok = some(tree.Older())
		want, there = m.older()
	case newer:
		got, ok = some(tree.Newer())
		want, there = m.newer()
	case goBelow:
		got, ok, want, there = reach(-1)
	case goFar:
		got, ok, want, there = reach(m.last + 1)
	default:
		got, ok, want, there = reach(call)
	}
	if !slices.Equal(got, want) || ok != there {
		t.Fatalf("%v: %d: %v %v, not %v %v", what, call, got, ok, want, there)
	}
}

// after tells a tree to which calls were done, and its model.
func after(t *testing.T, calls []int) (*undo.Tree, *model) {
	t.Helper()
	tree, m := undo.New(), newModel()
	for _, call := range calls {
		does(t, calls, call, tree, m)
	}
	return tree, m
}

// eachList hands over all lists of up to so many things of some.
func eachList[T any](most int, some []T, f func(l []T)) {
	var grow func(l []T)
	grow = func(l []T) {
		f(l)
		for i := 0; i < len(some) && len(l) < most; i++ {
			grow(append(slices.Clone(l), some[i]))
		}
	}
	grow(nil)
}

func TestP21_1New(t *testing.T) {
	is(t, "new", undo.New(), newModel())
	tree := undo.New()
	if n, ok := tree.Parent(0); n != 0 || ok || tree.Here() != 0 || tree.Len() != 1 || !slices.Equal(tree.Numbers(), []int{0}) {
		t.Errorf("%d of %v", tree.Here(), tree.Numbers())
	}
	if other := undo.New(); other.Add(tagged(1)) != 1 || tree.Len() != 1 {
		t.Error("two trees are one")
	}
}

func TestP21_1Add(t *testing.T) {
	tree := undo.New()
	for n := 1; n < api.MaxNodes; n++ {
		if got := tree.Add(tagged(n)); got != n || tree.Here() != n || tree.Len() != n+1 {
			t.Fatalf("%d is here, of %d", got, tree.Len())
		}
		if parent, ok := tree.Parent(n); parent != n-1 || !ok {
			t.Fatalf("the parent of %d: %d %v", n, parent, ok)
		}
	}
	// A number of a state that is left, or that is gone, does not come again.
	tree.Go(3)
	if got := tree.Add(tagged(api.MaxNodes)); got != api.MaxNodes || tree.Len() != api.MaxNodes {
		t.Errorf("%d is here, of %d", got, tree.Len())
	}
	if n, ok := tree.Parent(api.MaxNodes); n != 3 || !ok {
		t.Errorf("its parent: %d %v", n, ok)
	}
	if _, err := tree.Go(api.MaxNodes - 1); err != api.ErrNone {
		t.Errorf("the leaf that was there is: %d", err)
	}
}

// All short rows of calls, from trees on of few states.
func TestP21ShortRows(t *testing.T) {
	calls := []int{add, up, down, older, newer, 0, 1, 2, 3}
	eachList(5, calls, func(l []int) {
		tree, m := after(t, l)
		is(t, l, tree, m)
	})
	for _, begun := range [][]int{{add, add, 0, add, add}, {add, up, add, up, add, up}, {add, add, up, add, 0, add, up, add}} {
		eachList(3, append(calls, 4, 5, goBelow, goFar), func(l []int) {
			tree, m := after(t, slices.Concat(begun, l))
			is(t, l, tree, m)
		})
	}
}

// full are rows of calls that make trees of n states of many shapes.
func full(n int) map[string][]int {
	times := func(n int, calls ...int) []int { return slices.Repeat(calls, n) }
	return map[string][]int{
		"a chain":             times(n-1, add),
		"a chain, root":       append(times(n-1, add), 0),
		"a chain, half":       append(times(n-1, add), n/2),
		"a chain, above":      append(times(n-1, add), up),
		"a star":              append(times(n-2, add, up), add),
		"a star, root":        times(n-1, add, up),
		"a star, first":       append(times(n-1, add, up), 1),
		"a star, next first":  append(times(n-1, add, up), 1, up),
		"a star, next second": append(times(n-1, add, up), 2, up),
		"two chains":          slices.Concat(times(n/2, add), []int{0}, times(n-1-n/2, add)),
		"two chains, first":   slices.Concat(times(n/2, add), []int{0}, times(n-1-n/2, add), []int{n / 2}),
		"one and a chain":     slices.Concat([]int{add, up}, times(n-2, add)),
		"two and a chain":     slices.Concat([]int{add, up, add, up}, times(n-3, add)),
		"a chain and one":     slices.Concat(times(n-2, add), []int{0, add}),
		"a chain with leaves": append(times((n-1)/2, add, up, add), times((n-1)%2, add)...),
	}
}

// All short rows of calls, from full trees on, and from some that are nearly full.
func TestP21_1Full(t *testing.T) {
	for n := api.MaxNodes - 2; n <= api.MaxNodes; n++ {
		for name, begun := range full(n) {
			tree, m := after(t, begun)
			if m.last != n-1 {
				t.Fatalf("%s has %d states, not %d", name, m.last+1, n)
			}
			is(t, name, tree, m)
			eachList(3, []int{add, up, down, older, 0, 1, 2}, func(l []int) {
				tree, m := after(t, slices.Concat(begun, l, []int{add}))
				is(t, []any{name, n, l}, tree, m)
			})
		}
	}
}

// Many states are let go, up to all that there were.
func TestP21_1Replaced(t *testing.T) {
	for name, begun := range full(api.MaxNodes) {
		for _, more := range [][]int{{add}, {add, up}, {add, up, up}, {add, add, up}, {add, older}, {add, add, older}, {add, up, down}, {add, 0, newer}} {
			tree, m := after(t, begun)
			for range 3 * api.MaxNodes {
				for _, call := range more {
					does(t, name, call, tree, m)
				}
				is(t, name, tree, m)
			}
			if tree.Len() != api.MaxNodes {
				t.Fatalf("%s: %d states", name, tree.Len())
			}
		}
	}
}

// mixed tells n numbers from 0 to ahead of most that come in no order.
func mixed(n, most int) []int {
	l, x := make([]int, n), uint32(n)
	for i := range l {
		x = x*1664525 + 1013904223
		l[i] = int(x>>8) % most
	}
	return l
}

// A long row of calls of all kinds, those of Go to states that are there, and to others.
func TestP21LongRow(t *testing.T) {
	tree, m := undo.New(), newModel()
	for i, x := range mixed(6000, 1<<20) {
		call := []int{add, add, up, up, down, older, newer, goBelow, goFar, 0}[x%10]
		if call == 0 {
			call = max(0, m.last-x/10%(2*api.MaxNodes))
		}
		does(t, i, call, tree, m)
		is(t, i, tree, m)
	}
}

func TestP21_2UpDown(t *testing.T) {
	tree, m := after(t, []int{add, add, up, add, up, up})
	for _, call := range []int{up, down, down, down, up, up, up, down, down} {
		does(t, "up and down", call, tree, m)
	}
	if tree.Here() != 3 {
		t.Errorf("here is %d", tree.Here())
	}
	if d, ok := tree.Down(); len(d) != 0 || ok {
		t.Errorf("down from a leaf: %v", d)
	}
	tree.Go(0)
	if d, ok := tree.Up(); len(d) != 0 || ok || tree.Here() != 0 {
		t.Errorf("up from the root: %v", d)
	}
}

// A delta without edits is one.
func TestP21_2NoEdits(t *testing.T) {
	tree := undo.New()
	if n := tree.Add(nil); n != 1 {
		t.Fatalf("%d", n)
	}
	if d, ok := tree.Up(); len(d) != 0 || !ok || tree.Here() != 0 {
		t.Errorf("up: %v %v", d, ok)
	}
	if d, ok := tree.Down(); len(d) != 0 || !ok || tree.Here() != 1 {
		t.Errorf("down: %v %v", d, ok)
	}
	if way, err := tree.Go(0); len(way) != 1 || err != api.OK {
		t.Errorf("to the root: %v %d", way, err)
	}
}

func TestP21_3OfFew(t *testing.T) {
	// 0 is the parent of 1 and 4, 1 of 2 and 3, 4 of 5.
	begun := []int{add, add, up, add, 0, add, add}
	for _, x := range []struct {
		from, to int
		want     []int
	}{
		{5, 5, nil}, {0, 0, nil}, {5, 0, []int{-5, -4}}, {0, 5, []int{4, 5}}, {5, 3, []int{-5, -4, 1, 3}}, {3, 2, []int{-3, 2}}, {2, 4, []int{-2, -1, 4}}, {1, 3, []int{3}},
	} {
		tree, _ := after(t, append(slices.Clone(begun), x.from))
		if way, err := tree.Go(x.to); err != api.OK || !slices.Equal(tagsOf(t, way), x.want) || tree.Here() != x.to {
			t.Errorf("from %d to %d: %v %d, not %v", x.from, x.to, tagsOf(t, way), err, x.want)
		}
	}
	tree, m := after(t, begun)
	for _, n := range []int{-1, 6, math.MinInt, math.MaxInt} {
		if way, err := tree.Go(n); err != api.ErrNone || len(way) != 0 {
			t.Errorf("to %d: %v %d", n, way, err)
		}
		is(t, n, tree, m)
	}
}

// What is left upwards, and what is gone to downwards, is its parent's next one.
func TestP21_3Next(t *testing.T) {
	tree, _ := after(t, []int{add, add, up, add, 0, add, add})
	nexts := func(want ...int) {
		t.Helper()
		for _, n := range []int{0, 1, 4} {
			if got, ok := tree.Next(n); got != want[0] || !ok {
				t.Errorf("the next one of %d: %d %v, not %d", n, got, ok, want[0])
			}
			want = want[1:]
		}
	}
	nexts(4, 3, 5)
	tree.Go(2)
	nexts(1, 2, 5)
	tree.Go(0)
	nexts(1, 2, 5)
	tree.Go(4)
	nexts(4, 2, 5)
	tree.Go(3)
	nexts(1, 3, 5)
	if n, ok := tree.Next(2); n != 0 || ok {
		t.Errorf("the next one of a leaf: %d %v", n, ok)
	}
}

func TestP21_3OlderNewer(t *testing.T) {
	tree, m := after(t, []int{add, add, up, add, 0, add, add})
	for _, calls := range [][]int{slices.Repeat([]int{older}, 7), slices.Repeat([]int{newer}, 7), {older, older, newer, older, newer, newer}} {
		for _, call := range calls {
			does(t, calls, call, tree, m)
			is(t, calls, tree, m)
		}
	}
	// Numbers that are gone are passed by.
	tree, m = after(t, slices.Concat([]int{add, up, add, up, add, up}, slices.Repeat([]int{add}, api.MaxNodes-2), []int{0}))
	for _, call := range slices.Concat(slices.Repeat([]int{newer}, api.MaxNodes+1), slices.Repeat([]int{older}, api.MaxNodes+1)) {
		does(t, "with gaps", call, tree, m)
	}
	if tree.Here() != 0 || slices.Contains(tree.Numbers(), 1) || slices.Contains(tree.Numbers(), 2) {
		t.Errorf("here is %d of %v", tree.Here(), tree.Numbers())
	}
}

func TestP21_4OwnMemory(t *testing.T) {
	tree, m := after(t, []int{add, add, up, add, 0, add, add})
	l := tree.Numbers()
	_ = append(l, 9, 9)
	clear(l)
	is(t, "written into Numbers", tree, m)
	for _, n := range []int{3, 5, 2, 0} {
		way, _ := tree.Go(n)
		_ = append(way, nil, nil)
		clear(way)
		m.goTo(n)
		is(t, "written into what Go told", tree, m)
	}
	does(t, "written into what Go told", 5, tree, m)
	does(t, "written into what Go told", 3, tree, m)
}

// some tells a grid that is made of another one in one of many ways, or that one.
func some(g grid.Grid, how int) grid.Grid {
	at := how / 4 % (g.Len() + 1)
	r, _ := g.Row(how / 64 % g.Len())
	h, err := g, api.OK
	switch how % 4 {
	case 0:
		h, err = g.Insert(at, r)
	case 1:
		h, err = g.Put(at, r.Hide(how%8 == 1))
	case 2:
		h, err = g.Move(at, how%3)
	default:
		h, err = g.Delete(at)
	}
	if err != api.OK || h.Len() == 0 {
		return g
	}
	return h
}

func TestP21_5Grids(t *testing.T) {
	g, a, err := grid.Load([]byte("a,b\n\"c\"\nd\n,e"))
	if err != api.OK {
		t.Fatal(err)
	}
	tree, kept := undo.New(), map[int]grid.Grid{0: g}
	for i, how := range mixed(3000, 1<<20) {
		var way []delta.Delta
		var d delta.Delta
		if how%16 > 9 {
			h := some(g, how/16)
			d = delta.Between(g, h, a)
			kept[tree.Add(d)] = h
			way = append(way, d)
		}
		switch how % 16 {
		case 0, 1, 2:
			d, _ = tree.Up()
			way = append(way, d)
		case 3, 4, 5:
			d, _ = tree.Down()
			way = append(way, d)
		case 6:
			way, _ = tree.Older()
		case 7:
			way, _ = tree.Newer()
		case 8, 9:
			l := tree.Numbers()
			way, _ = tree.Go(l[how/16%len(l)])
		}
		for _, d := range way {
			if g, err = delta.Apply(g, a, d); err != api.OK {
				t.Fatalf("%d: %d", i, err)
			}
		}
		if !grid.Same(a, g, kept[tree.Here()]) {
			t.Fatalf("%d: not what %d stands for", i, tree.Here())
		}
		if tree.Len() > api.MaxNodes || !slices.Contains(tree.Numbers(), tree.Here()) {
			t.Fatalf("%d: %d of %v", i, tree.Here(), tree.Numbers())
		}
	}
	if tree.Len() != api.MaxNodes {
		t.Errorf("%d states", tree.Len())
	}
}

// asked does all calls to a tree of which nothing more is promised than that they end.
func asked(tree *undo.Tree) {
	for range 3 {
		tree.Up()
		tree.Down()
		tree.Older()
		tree.Newer()
		tree.Add(tagged(1))
		for _, n := range []int{math.MinInt, -1, 0, 1, math.MaxInt} {
			tree.Go(n)
			tree.Parent(n)
			tree.Next(n)
		}
		tree.Here()
		tree.Len()
		tree.Numbers()
	}
}

func TestP1NilTree(t *testing.T) {
	var tree *undo.Tree
	if n := tree.Add(tagged(1)); n != 0 {
		t.Errorf("Add: %d", n)
	}
	if d, ok := tree.Up(); len(d) != 0 || ok {
		t.Errorf("Up: %v", d)
	}
	if d, ok := tree.Down(); len(d) != 0 || ok {
		t.Errorf("Down: %v", d)
	}
	if way, ok := tree.Older(); len(way) != 0 || ok {
		t.Errorf("Older: %v", way)
	}
	if way, ok := tree.Newer(); len(way) != 0 || ok {
		t.Errorf("Newer: %v", way)
	}
	if tree.Here() != 0 || tree.Len() != 0 || len(tree.Numbers()) != 0 {
		t.Errorf("here is %d of %v", tree.Here(), tree.Numbers())
	}
	for _, n := range []int{math.MinInt, -1, 0, 1, math.MaxInt} {
		if way, err := tree.Go(n); len(way) != 0 || err != api.ErrNil {
			t.Errorf("Go(%d): %v %d", n, way, err)
		}
		if parent, ok := tree.Parent(n); parent != 0 || ok {
			t.Errorf("Parent(%d): %d", n, parent)
		}
		if next, ok := tree.Next(n); next != 0 || ok {
			t.Errorf("Next(%d): %d", n, next)
		}
	}
}

func TestP1MadeByHand(t *testing.T) {
	asked(&undo.Tree{})
	asked(new(undo.Tree))
	// One that is copied, and both changed by turns.
	tree, _ := after(t, []int{add, add, up, add, 0, add, add})
	other := *tree
	for range 2 * api.MaxNodes {
		other.Go(3)
		other.Add(tagged(1))
		tree.Add(tagged(1))
		other.Older()
		asked(&other)
		asked(tree)
	}
	wild := delta.Delta{{At: math.MinInt, Old: make([]row.Row, 3)}, {}}
	tree.Add(wild)
	if d, ok := tree.Up(); !ok || len(d) != 2 || d[1].At != math.MinInt || len(d[1].New) != 3 {
		t.Errorf("turned: %v", d)
	}
	asked(tree)
}

func TestP21Example(t *testing.T) {
	tree := undo.New()
	tree.Add(tagged(1))
	tree.Up()
	tree.Add(tagged(2))
	parent, ok := tree.Parent(2)
	next, has := tree.Next(0)
	if tree.Here() != 2 || parent != 0 || !ok || next != 2 || !has {
		t.Errorf("here is %d, its parent %d, whose next one is %d", tree.Here(), parent, next)
	}
}
