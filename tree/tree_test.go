package tree_test

import (
	"math"
	"slices"
	"strconv"
	"strings"
	"testing"

	"damier/tree"
)

// upTo tells the numbers ahead of n.
func upTo(n int) []int {
	l := make([]int, n)
	for i := range l {
		l[i] = i
	}
	return l
}

// things tells all things below a node, as the nodes have them.
func things[T any](n *tree.Node[T]) []T {
	if n == nil {
		return nil
	}
	l := slices.Clone(n.Items)
	for _, kid := range n.Kids {
		l = append(l, things(kid)...)
	}
	return l
}

// depth tells how high a node is whose shape is right; it says so, if it is not.
func depth[T any](t *testing.T, n *tree.Node[T], root bool) int {
	t.Helper()
	least := tree.Least
	switch {
	case root && len(n.Kids) > 0:
		least = 2
	case root:
		least = 1
	}
	if wide := len(n.Kids) + len(n.Items); wide < least || wide > tree.Most || len(n.Kids) > 0 && len(n.Items) > 0 {
		t.Fatalf("a node of %d kids and %d things", len(n.Kids), len(n.Items))
	}
	if n.N != len(things(n)) {
		t.Fatalf("%d, but %d things", n.N, len(things(n)))
	}
	high := 0
	for i, kid := range n.Kids {
		d := depth(t, kid, false)
		if i > 0 && d != high {
			t.Fatalf("leaves %d and %d deep", d, high)
		}
		high = d
	}
	return high + 1
}

// is says so, if a tree has not these things, or not the shape.
func is[T comparable](t *testing.T, what string, tr tree.Tree[T], want []T) {
	t.Helper()
	high := 0
	if root := tr.Root(); root != nil {
		high = depth(t, root, true)
	}
	if got := things(tr.Root()); !slices.Equal(got, want) {
		t.Fatalf("%s: %v, not %v", what, got, want)
	}
	if tr.Len() != len(want) || tr.Height() != high || (len(want) == 0) != (tr.Root() == nil) {
		t.Fatalf("%s: Len %d, Height %d, not %d, %d", what, tr.Len(), tr.Height(), len(want), high)
	}
}

// shape tells how many things which leaf has.
func shape[T any](n *tree.Node[T]) string {
	if n == nil {
		return "-"
	}
	if len(n.Kids) == 0 {
		return strconv.Itoa(len(n.Items))
	}
	var b strings.Builder
	b.WriteString("(")
	for _, kid := range n.Kids {
		b.WriteString(shape(kid))
	}
	return b.String() + ")"
}

// places are numbers of things around all that is asked of a tree of n.
func places(n int) []int {
	l := []int{math.MinInt, math.MinInt + 1, -2, -1, n + 1, n + 2, math.MaxInt - 1, math.MaxInt}
	return append(l, upTo(n+1)...)
}

// nodes tells all nodes of a tree.
func nodes[T any](n *tree.Node[T]) []*tree.Node[T] {
	if n == nil {
		return nil
	}
	l := []*tree.Node[T]{n}
	for _, kid := range n.Kids {
		l = append(l, nodes(kid)...)
	}
	return l
}

// chance tells numbers below n, always the same ones.
type chance uint64

func (c *chance) below(n int) int {
	*c = *c*6364136223846793005 + 1442695040888963407
	return int(uint64(*c)>>33) % n
}

// least tells the tree of n things that grew by one thing at a time, and so has about the fewest in each node.
func least(n int) tree.Tree[int] {
	var tr tree.Tree[int]
	for i := range n {
		tr, _ = tr.Insert(i, i)
	}
	return tr
}

func TestP9_1Of(t *testing.T) {
	for n := range 400 {
		is(t, "Of", tree.Of(upTo(n)...), upTo(n))
	}
	is(t, "Of", tree.Of[string](), nil)
	is(t, "Of", tree.Of("b", "a", "b"), []string{"b", "a", "b"})
	many := upTo(1 << 20)
	tr := tree.Of(many...)
	is(t, "Of", tr, many)
	if x, ok := tr.At(1<<20 - 1); !ok || x != 1<<20-1 {
		t.Error(x, ok)
	}
}

func TestP9_1OfKeepsNoList(t *testing.T) {
	for _, n := range []int{1, 6, 7, 40, 300} {
		l := upTo(n)
		tr := tree.Of(l...)
		for i := range l {
			l[i] = -1
		}
		is(t, "Of", tr, upTo(n))
		for _, node := range nodes(tr.Root()) {
			_ = append(node.Items, -1)
			_ = append(node.Kids, nil)
		}
		is(t, "Of", tr, upTo(n))
	}
}

func TestP9_1At(t *testing.T) {
	for _, n := range []int{0, 1, 5, 6, 7, 30, 36, 37, 200} {
		for _, tr := range []tree.Tree[int]{tree.Of(upTo(n)...), least(n)} {
			for _, i := range places(n) {
				x, ok := tr.At(i)
				if there := i >= 0 && i < n; ok != there || there && x != i || !there && x != 0 {
					t.Errorf("%d of %d: %d %v", i, n, x, ok)
				}
			}
		}
	}
}

// eachChange tries a change at all places of trees up to some number of things, against what it does to a list.
func eachChange(t *testing.T, what string, change func(tr tree.Tree[int], i int) (tree.Tree[int], bool), want func(l []int, i int) []int, last int) {
	for n := range 80 {
		for _, tr := range []tree.Tree[int]{tree.Of(upTo(n)...), least(n)} {
			for _, i := range places(n) {
				got, ok := change(tr, i)
				there := i >= 0 && i < n+last
				if ok != there || !ok && got != tr {
					t.Fatalf("%s at %d of %d: %v", what, i, n, ok)
				}
				if there {
					is(t, what, got, want(upTo(n), i))
				}
				is(t, what+" changed it", tr, upTo(n))
			}
		}
	}
}

func TestP9_1Set(t *testing.T) {
	eachChange(t, "Set", func(tr tree.Tree[int], i int) (tree.Tree[int], bool) {
		return tr.Set(i, -7)
	}, func(l []int, i int) []int {
		l[i] = -7
		return l
	}, 0)
}

func TestP9_1Insert(t *testing.T) {
	eachChange(t, "Insert", func(tr tree.Tree[int], i int) (tree.Tree[int], bool) {
		return tr.Insert(i, -7)
	}, func(l []int, i int) []int {
		return slices.Insert(l, i, -7)
	}, 1)
}

func TestP9_1Delete(t *testing.T) {
	eachChange(t, "Delete", func(tr tree.Tree[int], i int) (tree.Tree[int], bool) {
		return tr.Delete(i)
	}, func(l []int, i int) []int {
		return slices.Delete(l, i, i+1)
	}, 0)
}

func TestP9_2Split(t *testing.T) {
	for n := range 120 {
		for _, tr := range []tree.Tree[int]{tree.Of(upTo(n)...), least(n)} {
			for _, i := range places(n) {
				at := min(max(i, 0), n)
				l, r := tr.Split(i)
				is(t, "Split, the first", l, upTo(n)[:at])
				is(t, "Split, the others", r, upTo(n)[at:])
				is(t, "Split changed it", tr, upTo(n))
				is(t, "Join", tree.Join(l, r), upTo(n))
			}
		}
	}
}

func TestP9_2Join(t *testing.T) {
	var all []tree.Tree[int]
	for n := range 45 {
		all = append(all, tree.Of(upTo(n)...), least(n))
	}
	for _, n := range []int{125, 216, 217, 650, 1300} {
		all = append(all, tree.Of(upTo(n)...), least(n))
	}
	for _, a := range all {
		for _, b := range all {
			is(t, "Join", tree.Join(a, b), append(upTo(a.Len()), upTo(b.Len())...))
		}
	}
	for i, a := range all {
		is(t, "Join changed it", a, upTo(all[i].Len()))
	}
}

func TestP9_3RootAndHeight(t *testing.T) {
	var none tree.Tree[int]
	if none.Root() != nil || none.Height() != 0 || none.Len() != 0 {
		t.Error("the zero tree")
	}
	one := tree.Of(5)
	if r := one.Root(); r == nil || len(r.Kids) != 0 || !slices.Equal(r.Items, []int{5}) || r.N != 1 || one.Height() != 1 {
		t.Error("one thing")
	}
	if gone, ok := one.Delete(0); !ok || gone.Root() != nil || gone.Height() != 0 {
		t.Error("the only thing, taken out")
	}
	for n := 1; n <= 6; n++ {
		if tree.Of(upTo(n)...).Height() != 1 {
			t.Errorf("%d things", n)
		}
	}
	if tree.Of(upTo(7)...).Height() != 2 {
		t.Error("seven things")
	}
}

// TestP9_3AllShapes goes on from shape to shape, by all changes, as long as the trees have few things.
func TestP9_3AllShapes(t *testing.T) {
	const most = 23
	seen := map[string]bool{"-": true}
	all := []tree.Tree[int]{{}}
	next := func(what string, tr tree.Tree[int], want []int) {
		is(t, what, tr, want)
		if s := shape(tr.Root()); !seen[s] && tr.Len() <= most {
			seen[s] = true
			all = append(all, tr)
		}
	}
	for k := 0; k < len(all); k++ {
		tr := all[k]
		l := things(tr.Root())
		for i := range len(l) + 1 {
			more, _ := tr.Insert(i, -i)
			next("Insert", more, slices.Insert(slices.Clone(l), i, -i))
			a, b := tr.Split(i)
			next("Split", a, l[:i])
			next("Split", b, l[i:])
			next("Join", tree.Join(b, a), slices.Concat(l[i:], l[:i]))
			if i < len(l) {
				less, _ := tr.Delete(i)
				next("Delete", less, slices.Delete(slices.Clone(l), i, i+1))
			}
		}
		is(t, "it changed", tr, l)
	}
	for k, a := range all {
		for i := k % 7; i < len(all); i += 1 + len(all)/60 {
			next("Join", tree.Join(a, all[i]), append(things(a.Root()), things(all[i].Root())...))
		}
	}
	if len(all) < 500 {
		t.Errorf("only %d shapes", len(all))
	}
}

func TestP9_3LongRuns(t *testing.T) {
	c := chance(9)
	var tr tree.Tree[int]
	var l []int
	for step := range 20000 {
		grow := step/2000%2 == 0
		switch k := c.below(10); {
		case k == 0 && len(l) > 0:
			i := c.below(len(l))
			tr, _ = tr.Set(i, step)
			l[i] = step
		case k < 7 == grow || len(l) == 0:
			i := c.below(len(l) + 1)
			tr, _ = tr.Insert(i, step)
			l = slices.Insert(l, i, step)
		default:
			i := c.below(len(l))
			tr, _ = tr.Delete(i)
			l = slices.Delete(l, i, i+1)
		}
		if step%50 == 0 {
			i := c.below(len(l) + 1)
			a, b := tr.Split(i)
			tr, l = tree.Join(b, a), slices.Concat(l[i:], l[:i])
			is(t, "behind many changes", tr, l)
		}
	}
	for len(l) > 0 {
		i := c.below(len(l))
		tr, _ = tr.Delete(i)
		l = slices.Delete(l, i, i+1)
		is(t, "taken out", tr, l)
	}
}

func TestP9_4Height(t *testing.T) {
	holds := func(tr tree.Tree[int]) {
		t.Helper()
		bound := 2
		for range tr.Height() - 1 {
			bound *= 3
		}
		if tr.Height() > 1 && tr.Len() < bound {
			t.Fatalf("%d things, and %d high", tr.Len(), tr.Height())
		}
	}
	var tr tree.Tree[int]
	for n := range 3000 {
		tr, _ = tr.Insert(n/2, n)
		holds(tr)
	}
	for tr.Len() > 0 {
		holds(tr)
		tr, _ = tr.Delete(tr.Len() / 3)
	}
}

func TestP9_4WhatWasToldStays(t *testing.T) {
	c := chance(4)
	var trees []tree.Tree[int]
	var lists [][]int
	keep := func(tr tree.Tree[int]) {
		trees, lists = append(trees, tr), append(lists, things(tr.Root()))
	}
	keep(tree.Of(upTo(60)...))
	for range 500 {
		tr := trees[c.below(len(trees))]
		if tr.Len() > 300 {
			continue
		}
		i := c.below(tr.Len() + 1)
		var other tree.Tree[int]
		switch c.below(5) {
		case 0:
			other, _ = tr.Set(i, -1)
		case 1:
			other, _ = tr.Insert(i, -2)
		case 2:
			other, _ = tr.Delete(i)
		case 3:
			other, _ = tr.Split(i)
		case 4:
			other = tree.Join(tr, trees[c.below(len(trees))])
		}
		keep(other)
	}
	for k, tr := range trees {
		is(t, "later", tr, lists[k])
	}
}

// TestNodesStay: what changes a tree makes a few nodes a level, and leaves the others as they are.
func TestNodesStay(t *testing.T) {
	tr := tree.Of(upTo(5000)...)
	old := map[*tree.Node[int]]bool{}
	for _, n := range nodes(tr.Root()) {
		old[n] = true
	}
	few := func(what string, changed tree.Tree[int], most int) {
		t.Helper()
		fresh := 0
		for _, n := range nodes(changed.Root()) {
			if !old[n] {
				fresh++
			}
		}
		if fresh > most*tr.Height()+1 {
			t.Errorf("%s: %d new nodes", what, fresh)
		}
	}
	for i := 0; i < 5000; i += 37 {
		s, _ := tr.Set(i, 0)
		few("Set", s, 1)
		s, _ = tr.Insert(i, 0)
		few("Insert", s, 2)
		s, _ = tr.Delete(i)
		few("Delete", s, 2)
		a, b := tr.Split(i)
		few("Split", a, 2)
		few("Split", b, 2)
		few("Join", tree.Join(a, b), 4)
	}
}

// TestP1AnyKind: there are trees of things of any kind, and none of them panics.
func TestP1AnyKind(t *testing.T) {
	var none tree.Tree[func()]
	for _, i := range places(1) {
		none.At(i)
		none.Split(i)
		none.Insert(i, nil)
		if _, ok := none.Set(i, nil); ok {
			t.Error("Set in nothing")
		}
		if _, ok := none.Delete(i); ok {
			t.Error("Delete of nothing")
		}
	}
	if tree.Join(none, none).Root() != nil || tree.Of[func()](nil).Len() != 1 {
		t.Error("functions")
	}
	type pair struct {
		a, b string
	}
	tr, _ := tree.Of(pair{"a", "b"}).Insert(0, pair{b: "c"})
	is(t, "pairs", tr, []pair{{"", "c"}, {"a", "b"}})
	if x, ok := tr.At(2); ok || x != (pair{}) {
		t.Error("beyond")
	}
}

func TestP9Example(t *testing.T) {
	r := tree.Of(upTo(7)...).Root()
	if len(r.Kids) != 2 || len(r.Items) != 0 || len(r.Kids[0].Kids)+len(r.Kids[1].Kids) != 0 {
		t.Errorf("%+v", r)
	}
}
