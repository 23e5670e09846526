package walk_test

import (
	"math"
	"slices"
	"testing"

	"damier/tree"
	"damier/walk"
)

// upTo tells the numbers ahead of n.
func upTo(n int) []int {
	l := make([]int, n)
	for i := range l {
		l[i] = i
	}
	return l
}

// tens tells as many numbers, each unlike its place.
func tens(n int) []int {
	l := upTo(n)
	for i := range l {
		l[i] *= 10
	}
	return l
}

// grown tells a tree of these things that grew one by one.
func grown(l []int) tree.Tree[int] {
	var tr tree.Tree[int]
	for i, x := range l {
		tr, _ = tr.Insert(i, x)
	}
	return tr
}

// trees tells trees of one, two and three levels.
func trees() []tree.Tree[int] {
	var all []tree.Tree[int]
	for _, n := range []int{0, 1, 2, 6, 7, 12, 20, 37, 45} {
		all = append(all, tree.Of(tens(n)...), grown(tens(n)))
	}
	return all
}

// places are numbers of things around all that is asked of a tree of n; fewer inside greater ones.
func places(n int) []int {
	l := []int{math.MinInt, -2, -1, 0, 1, n - 1, n, n + 1, math.MaxInt - 1, math.MaxInt}
	for i := 2; i < n-1; i += 1 + n/15 {
		l = append(l, i)
	}
	return l
}

// stretch tells the ends of a stretch of n things.
func stretch(n, i, j int) (int, int) {
	i = min(max(i, 0), n)
	return i, min(max(j, i), n)
}

// eachStretch hands over trees and ends of stretches, as they are and as they are to be taken.
func eachStretch(f func(tr tree.Tree[int], i, j, from, to int)) {
	for _, tr := range trees() {
		for _, i := range places(tr.Len()) {
			for _, j := range places(tr.Len()) {
				from, to := stretch(tr.Len(), i, j)
				f(tr, i, j, from, to)
			}
		}
	}
}

// right tells whether all nodes have as many kids and things as they may, and all leaves lie as deep.
func right[T any](n *tree.Node[T], root bool) (int, bool) {
	least, all, high := tree.Least, len(n.Items), 0
	if root {
		least = min(2, 1+len(n.Kids))
	}
	wide := len(n.Kids) + len(n.Items)
	ok := wide >= least && wide <= tree.Most && len(n.Kids)*len(n.Items) == 0
	for i, kid := range n.Kids {
		h, is := right(kid, false)
		ok = ok && is && (i == 0 || h == high)
		high, all = h, all+kid.N
	}
	return high + 1, ok && n.N == all
}

// is says so, if a tree has not these things, or not the shape.
func is[T comparable](t *testing.T, what string, tr tree.Tree[T], want []T) {
	t.Helper()
	if root := tr.Root(); root != nil {
		if high, ok := right(root, true); !ok || high != tr.Height() {
			t.Fatalf("%s: not the shape", what)
		}
	}
	var got []T
	for i := range tr.Len() {
		x, _ := tr.At(i)
		got = append(got, x)
	}
	if !slices.Equal(got, want) {
		t.Fatalf("%s: %v, not %v", what, got, want)
	}
}

func TestP10_1All(t *testing.T) {
	for _, tr := range trees() {
		if got := walk.All(tr); !slices.Equal(got, tens(tr.Len())) {
			t.Errorf("%v", got)
		}
	}
	l := tens(20)
	tr := tree.Of(l...)
	got := walk.All(tr)
	for i := range got {
		got[i] = -1
	}
	_ = append(got, -1)
	if !slices.Equal(walk.All(tr), l) {
		t.Error("a list that was told shares memory")
	}
	if len(walk.All(tree.Tree[string]{})) != 0 {
		t.Error("nothing")
	}
}

func TestP10_1Range(t *testing.T) {
	eachStretch(func(tr tree.Tree[int], i, j, from, to int) {
		at := from
		for n, x := range walk.Range(tr, i, j) {
			if n != at || x != 10*at {
				t.Fatalf("from %d to %d of %d: %d %d at %d", i, j, tr.Len(), n, x, at)
			}
			at++
		}
		if at != to {
			t.Fatalf("from %d to %d of %d: up to %d", i, j, tr.Len(), at)
		}
	})
}

func TestP10_1Back(t *testing.T) {
	eachStretch(func(tr tree.Tree[int], i, j, from, to int) {
		at := to
		for n, x := range walk.Back(tr, i, j) {
			at--
			if n != at || x != 10*at {
				t.Fatalf("from %d to %d of %d: %d %d at %d", i, j, tr.Len(), n, x, at)
			}
		}
		if at != from {
			t.Fatalf("from %d to %d of %d: down to %d", i, j, tr.Len(), at)
		}
	})
}

func TestP10_1Stops(t *testing.T) {
	tr := tree.Of(upTo(50)...)
	for most := 1; most <= 50; most++ {
		for _, seq := range []func(yield func(int, int) bool){walk.Range(tr, 0, 50), walk.Back(tr, 0, 50)} {
			asked := 0
			seq(func(int, int) bool {
				asked++
				return asked < most
			})
			if asked != most {
				t.Fatalf("stopped at %d: asked %d", most, asked)
			}
		}
	}
}

func TestP10_1AsOftenAsOneLikes(t *testing.T) {
	tr := tree.Of(upTo(40)...)
	there, back := walk.Range(tr, 3, 33), walk.Back(tr, 3, 33)
	for n := range there {
		if n == 20 {
			break
		}
	}
	for range 2 {
		n := 0
		for i, x := range there {
			// One inside the other: each has a stack of its own.
			last := -1
			for k := range back {
				last = k
			}
			if i != 3+n || x != i || last != 3 {
				t.Fatal(i, x, last)
			}
			n++
		}
		if n != 30 {
			t.Fatal(n)
		}
	}
}

// TestP10_1GreatTree: what does not belong to the stretch is not gone through.
func TestP10_1GreatTree(t *testing.T) {
	const n = 1 << 20
	tr := tree.Of(upTo(n)...)
	for at := 0; at < n; at += 97 {
		sum := 0
		for _, x := range walk.Range(tr, at, at+2) {
			sum += x
		}
		for i, x := range walk.Back(tr, 0, at+1) {
			sum += i + x
			break
		}
		if want := 4*at + 1; sum != want && at != n-1 {
			t.Fatalf("%d: %d, not %d", at, sum, want)
		}
	}
}

func TestP10_2Slice(t *testing.T) {
	eachStretch(func(tr tree.Tree[int], i, j, from, to int) {
		is(t, "Slice", walk.Slice(tr, i, j), tens(tr.Len())[from:to])
		is(t, "Slice changed it", tr, tens(tr.Len()))
	})
}

func TestP10_2Splice(t *testing.T) {
	others := []tree.Tree[int]{{}, tree.Of(-1), tree.Of(upTo(9)...), tree.Of(upTo(50)...)}
	eachStretch(func(tr tree.Tree[int], i, j, from, to int) {
		for _, u := range others {
			l := tens(tr.Len())
			is(t, "Splice", walk.Splice(tr, i, j, u), slices.Concat(l[:from], walk.All(u), l[to:]))
			is(t, "Splice changed it", tr, l)
		}
		is(t, "Splice of itself", walk.Splice(tr, i, j, walk.Slice(tr, i, j)), tens(tr.Len()))
	})
}

func TestP10_2Move(t *testing.T) {
	eachStretch(func(tr tree.Tree[int], i, j, from, to int) {
		for _, at := range places(tr.Len() - (to - from)) {
			l := tens(tr.Len())
			left := slices.Concat(l[:from], l[to:])
			a := min(max(at, 0), len(left))
			is(t, "Move", walk.Move(tr, i, j, at), slices.Insert(left, a, l[from:to]...))
		}
		is(t, "Move changed it", tr, tens(tr.Len()))
	})
}

func TestP10_3Map(t *testing.T) {
	for _, tr := range trees() {
		asked := 0
		got := walk.Map(tr, func(i, x int) int {
			if i != asked || x != 10*i {
				t.Fatalf("asked %d of %d", i, x)
			}
			asked++
			return x + i
		})
		want := upTo(tr.Len())
		for i := range want {
			want[i] *= 11
		}
		is(t, "Map", got, want)
		is(t, "Map changed it", tr, tens(tr.Len()))
		if asked != tr.Len() {
			t.Errorf("asked %d of %d", asked, tr.Len())
		}
	}
}

func TestP10_3Index(t *testing.T) {
	for _, tr := range trees() {
		for _, from := range places(tr.Len()) {
			for _, x := range []int{-1, 0, 10, 60, 10 * (tr.Len() - 1), 10 * tr.Len()} {
				want := slices.IndexFunc(tens(tr.Len()), func(y int) bool { return y >= x && y >= 10*max(min(from, 100), 0) })
				if got := walk.Index(tr, from, func(y int) bool { return y >= x }); got != want {
					t.Fatalf("from %d of %d, %d: %d, not %d", from, tr.Len(), x, got, want)
				}
			}
		}
	}
	tr := tree.Of("b", "a", "b", "c", "a")
	isA := func(s string) bool { return s == "a" }
	for from, want := range []int{1, 1, 4, 4, 4, -1} {
		if got := walk.Index(tr, from, isA); got != want {
			t.Errorf("from %d: %d", from, got)
		}
	}
}

func TestP10_4ThereAndBack(t *testing.T) {
	eachStretch(func(tr tree.Tree[int], i, j, from, to int) {
		for _, at := range places(tr.Len() - (to - from)) {
			a := min(max(at, 0), tr.Len()-(to-from))
			moved := walk.Move(tr, i, j, at)
			is(t, "moved there and back", walk.Move(moved, a, a+to-from, from), tens(tr.Len()))
		}
		out := walk.Splice(tr, i, j, tree.Tree[int]{})
		is(t, "cut out and put in", walk.Splice(out, from, from, walk.Slice(tr, i, j)), tens(tr.Len()))
	})
}

// TestP1NothingPanics: nor of nothing, nor without a function.
func TestP1NothingPanics(t *testing.T) {
	for _, tr := range []tree.Tree[string]{{}, tree.Of("a", "b", "c", "d", "e", "f", "g")} {
		for _, i := range places(7) {
			if walk.Index(tr, i, nil) != -1 {
				t.Error("Index of nothing that holds")
			}
			walk.Move(tr, i, i, i)
			walk.Splice(tr, i, i, tr)
		}
		is(t, "Map of no function", walk.Map(tr, nil), nil)
	}
}

func TestP10Example(t *testing.T) {
	is(t, "Move", walk.Move(tree.Of(1, 2, 3, 4), 0, 1, 3), []int{2, 3, 4, 1})
}
