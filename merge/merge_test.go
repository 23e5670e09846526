package merge_test

import (
	"cmp"
	"math"
	"slices"
	"testing"

	"damier/merge"
)

// thing is something that stands by its rank alone; its name tells it from those that stand alike.
type thing struct{ rank, name int }

// byRank is the comparison of things.
func byRank(a, b thing) int {
	return cmp.Compare(a.rank, b.rank)
}

// things tells things of such ranks, named by their places; behind them there is room, in which none stand.
func things(first int, ranks ...int) []thing {
	l := make([]thing, 0, len(ranks)+2)
	for i, rank := range ranks {
		l = append(l, thing{rank, first + i})
	}
	return l
}

// comparisons are ways to tell byRank: by small numbers, by the greatest and least ones, and by others.
func comparisons() []func(a, b thing) int {
	return []func(a, b thing) int{
		byRank,
		func(a, b thing) int { return a.rank - b.rank },
		func(a, b thing) int { return [3]int{math.MinInt, 0, math.MaxInt}[byRank(a, b)+1] },
		func(a, b thing) int { return [3]int{math.MinInt, 0, 1}[byRank(a, b)+1] },
		func(a, b thing) int { return [3]int{-1, 0, math.MaxInt}[byRank(a, b)+1] },
	}
}

// eachRanks hands over all lists of up to so many ranks from 0 to ahead of kinds.
func eachRanks(most, kinds int, f func(ranks []int)) {
	var grow func(ranks []int)
	grow = func(ranks []int) {
		f(ranks)
		for rank := 0; rank < kinds && len(ranks) < most; rank++ {
			grow(append(slices.Clone(ranks), rank))
		}
	}
	grow(nil)
}

// longRanks are longer lists: of few kinds and of many, rising, falling, and waves.
func longRanks() [][]int {
	var all [][]int
	for _, n := range []int{63, 64, 65, 1000} {
		rows := make([][]int, 6)
		for i := range n {
			for k, rank := range []int{i, -i, i * i % 7, i * 7919 % n, i % 20, 3} {
				rows[k] = append(rows[k], rank)
			}
		}
		all = append(all, rows...)
	}
	return all
}

// each hands over all short lists of things, and some longer ones.
func each(f func(l []thing)) {
	eachRanks(6, 4, func(ranks []int) { f(things(0, ranks...)) })
	for _, ranks := range longRanks() {
		f(things(0, ranks...))
	}
}

// inOrder tells whether nothing stands behind what comes next.
func inOrder(l []thing) bool {
	for i := 1; i < len(l); i++ {
		if l[i-1].rank > l[i].rank {
			return false
		}
	}
	return true
}

// sorted tells a list's things in order by the words: of each rank, from the least one on, its things as they came.
func sorted(l []thing) []thing {
	left, all := slices.Clone(l), []thing{}
	for len(left) > 0 {
		least := slices.MinFunc(left, byRank).rank
		is := func(x thing) bool { return x.rank == least }
		for _, x := range left {
			if is(x) {
				all = append(all, x)
			}
		}
		left = slices.DeleteFunc(left, is)
	}
	return all
}

// stays says so, if a list that was handed in is not as it was, or if something stands in the room behind it.
func stays(t *testing.T, what string, l, old []thing) {
	t.Helper()
	if !slices.Equal(l, old) {
		t.Fatalf("%s: %v became %v", what, old, l)
	}
	for _, x := range l[len(l):cap(l)] {
		if x != (thing{}) {
			t.Fatalf("%s: %v stands behind %v", what, x, l)
		}
	}
}

func TestP15_1Runs(t *testing.T) {
	for _, compare := range comparisons() {
		each(func(l []thing) {
			old := slices.Clone(l)
			runs := merge.Runs(l, compare)
			stays(t, "Runs", l, old)
			if !slices.Equal(slices.Concat(runs...), l) {
				t.Fatalf("%v is parted into %v", l, runs)
			}
			for i, run := range runs {
				if len(run) == 0 || !inOrder(run) {
					t.Fatalf("%v: %v is a run", l, run)
				}
				if i > 0 && runs[i-1][len(runs[i-1])-1].rank <= run[0].rank {
					t.Fatalf("%v: %v and %v are not one run", l, runs[i-1], run)
				}
			}
		})
	}
	for _, l := range [][]thing{nil, {}} {
		if runs := merge.Runs(l, byRank); len(runs) != 0 {
			t.Errorf("of nothing: %v", runs)
		}
	}
}

func TestP15_1RunsOfNumbers(t *testing.T) {
	for _, x := range []struct {
		l    []int
		want [][]int
	}{
		{[]int{7}, [][]int{{7}}},
		{[]int{1, 1, 2}, [][]int{{1, 1, 2}}},
		{[]int{2, 1, 1}, [][]int{{2}, {1, 1}}},
		{[]int{1, 3, 2, 2, 5, 4, 3}, [][]int{{1, 3}, {2, 2, 5}, {4}, {3}}},
	} {
		if runs := merge.Runs(x.l, cmp.Compare[int]); !slices.EqualFunc(runs, x.want, slices.Equal[[]int]) {
			t.Errorf("%v: %v", x.l, runs)
		}
	}
}

// eachRows hands over rows that are in order each: all lists of up to three short ones, and some of more.
func eachRows(f func(rows [][]thing)) {
	var some [][]int
	eachRanks(3, 3, func(ranks []int) {
		if slices.IsSorted(ranks) {
			some = append(some, ranks)
		}
	})
	rows := func(lists ...[]int) {
		var all [][]thing
		for i, ranks := range lists {
			all = append(all, things(1000*i, ranks...))
		}
		f(all)
	}
	rows()
	for _, x := range some {
		rows(x)
		for _, y := range some {
			rows(x, y)
			for _, z := range some {
				rows(x, y, z)
			}
		}
	}
	rows(some...)
	slices.Reverse(some)
	rows(slices.Concat(some, some)...)
}

func TestP15_1Merge(t *testing.T) {
	for _, compare := range comparisons() {
		eachRows(func(rows [][]thing) {
			var old [][]thing
			for _, row := range rows {
				old = append(old, slices.Clone(row))
			}
			got := merge.Merge(compare, rows...)
			if want := sorted(slices.Concat(old...)); !slices.Equal(got, want) {
				t.Fatalf("%v: %v, not %v", old, got, want)
			}
			for i, row := range rows {
				stays(t, "Merge", row, old[i])
			}
		})
	}
}

func TestP15_1MergeOfNothing(t *testing.T) {
	for _, rows := range [][][]thing{nil, {}, {nil}, {{}, nil, {}}} {
		if got := merge.Merge(byRank, rows...); len(got) != 0 {
			t.Errorf("%v: %v", rows, got)
		}
	}
	one := thing{3, 9}
	if got := merge.Merge(byRank, nil, []thing{one}, nil); !slices.Equal(got, []thing{one}) {
		t.Errorf("%v", got)
	}
}

func TestP15_2Sort(t *testing.T) {
	for _, compare := range comparisons() {
		each(func(l []thing) {
			old := slices.Clone(l)
			if got, want := merge.Sort(l, compare), sorted(l); !slices.Equal(got, want) {
				t.Fatalf("%v: %v, not %v", l, got, want)
			}
			stays(t, "Sort", l, old)
		})
	}
}

func TestP15_2Perm(t *testing.T) {
	for _, compare := range comparisons() {
		each(func(l []thing) {
			old := slices.Clone(l)
			perm, want := merge.Perm(l, compare), sorted(l)
			if len(perm) != len(l) {
				t.Fatalf("%v: %v", l, perm)
			}
			for place, i := range perm {
				// A thing's name is its number.
				if i != want[place].name {
					t.Fatalf("%v: %v, not %v", l, perm, want)
				}
			}
			stays(t, "Perm", l, old)
		})
	}
}

func TestP15_2Least(t *testing.T) {
	each(func(l []thing) {
		old, want := slices.Clone(l), sorted(l)
		for _, n := range []int{math.MinInt, -1, 0, 1, 2, len(l) / 2, len(l) - 1, len(l), len(l) + 1, math.MaxInt} {
			got := merge.Least(l, n, byRank)
			if !slices.Equal(got, want[:min(max(n, 0), len(l))]) {
				t.Fatalf("%d of %v: %v", n, l, got)
			}
		}
		stays(t, "Least", l, old)
	})
}

// turned tells by the words the place of each number; nothing, unless each stands at just one.
func turned(p []int) ([]int, bool) {
	var places []int
	for n := range p {
		at := slices.Index(p, n)
		if at < 0 || slices.Contains(p[at+1:], n) {
			return nil, false
		}
		places = append(places, at)
	}
	return places, true
}

func checkTurn(t *testing.T, p []int) {
	t.Helper()
	old := slices.Clone(p)
	want, is := turned(p)
	got, ok := merge.Turn(p)
	if ok != is || !slices.Equal(got, want) {
		t.Fatalf("%v: %v %v, not %v", p, got, ok, want)
	}
	if !slices.Equal(p, old) {
		t.Fatalf("%v became %v", old, p)
	}
}

func TestP15_3Turn(t *testing.T) {
	eachRanks(5, 6, func(ranks []int) {
		checkTurn(t, ranks)
		below := slices.Clone(ranks)
		for i := range below {
			below[i]--
		}
		checkTurn(t, below)
	})
	for _, p := range [][]int{nil, {}, {math.MinInt}, {math.MaxInt}, {1}, {-1, 0}, {0, math.MinInt}, {math.MaxInt, 1}, {1, 1 << 32}} {
		checkTurn(t, p)
	}
	if got, ok := merge.Turn([]int{2, 0, 1, 3}); !ok || !slices.Equal(got, []int{1, 2, 0, 3}) {
		t.Errorf("%v %v", got, ok)
	}
	if got, ok := merge.Turn(nil); !ok || len(got) != 0 {
		t.Errorf("of nothing: %v %v", got, ok)
	}
	for _, ranks := range longRanks() {
		p := merge.Perm(ranks, cmp.Compare[int])
		checkTurn(t, p)
		there, _ := merge.Turn(p)
		if back, ok := merge.Turn(there); !ok || !slices.Equal(back, p) {
			t.Fatalf("%v: turned twice %v", p, back)
		}
	}
}

func TestP15_4SortedTwice(t *testing.T) {
	each(func(l []thing) {
		once := merge.Sort(l, byRank)
		if twice := merge.Sort(once, byRank); !slices.Equal(twice, once) {
			t.Fatalf("%v: %v, then %v", l, once, twice)
		}
		if !inOrder(once) || len(merge.Runs(once, byRank)) > 1 {
			t.Fatalf("%v: %v is not in order", l, once)
		}
	})
}

// A row that is in order is asked through once, any other one about as often as halving has it.
func TestP15_4AskedSeldom(t *testing.T) {
	const n = 1 << 14
	for what, rank := range map[string]func(i int) int{
		"rising":  func(i int) int { return i },
		"falling": func(i int) int { return -i },
		"alike":   func(i int) int { return 0 },
		"mixed":   func(i int) int { return i * 7919 % n },
	} {
		l, asked := make([]int, n), 0
		for i := range l {
			l[i] = rank(i)
		}
		got := merge.Sort(l, func(a, b int) int {
			asked++
			return cmp.Compare(a, b)
		})
		if !slices.IsSorted(got) || len(got) != n || asked > 4*n*14 {
			t.Errorf("%s: asked %d times", what, asked)
		}
	}
}

func TestP1OwnMemory(t *testing.T) {
	other := thing{-9, -9}
	spoil := func(l []thing) {
		for i := range l {
			l[i] = other
		}
		_ = append(l, other, other, other)
	}
	for _, ranks := range [][]int{{1}, {1, 2, 3}, {3, 2, 1}, {1, 2, 1, 2}} {
		l := things(0, ranks...)
		old := slices.Clone(l)
		spoil(merge.Sort(l, byRank))
		spoil(merge.Least(l, 1, byRank))
		spoil(merge.Merge(byRank, l))
		stays(t, "written into answers", l, old)
		runs, want := merge.Runs(l, byRank), merge.Runs(l, byRank)
		for i, run := range runs {
			spoil(run)
			if !slices.EqualFunc(runs[i+1:], want[i+1:], slices.Equal[[]thing]) {
				t.Fatalf("%v: of %v left %v", l, want, runs)
			}
		}
		stays(t, "written into runs", l, old)
	}
}

func TestP1NoComparison(t *testing.T) {
	asked := 0
	for what, compare := range map[string]func(a, b thing) int{
		"nil":    nil,
		"panics": func(a, b thing) int { panic("no comparison") },
		"panics at one": func(a, b thing) int {
			if a.name == 2 || b.name == 2 {
				panic("no comparison")
			}
			return byRank(a, b)
		},
	} {
		for _, l := range [][]thing{things(0, 3, 1, 2, 0), things(0, 1, 2, 3, 4)} {
			runs := merge.Runs(l, compare)
			all, sorted := merge.Merge(compare, l[:2], l[2:]), merge.Sort(l, compare)
			if len(runs)+len(all)+len(sorted)+len(merge.Perm(l, compare))+len(merge.Least(l, 2, compare)) > 0 {
				t.Errorf("%s: %v, %v, %v", what, runs, all, sorted)
			}
		}
		if all := merge.Merge(compare, things(3, 4), things(0, 1, 2, 3)); len(all) > 0 {
			t.Errorf("%s: merged in part: %v", what, all)
		}
		merge.Runs(nil, compare)
		merge.Merge(compare)
		merge.Sort(things(0, 1), compare)
		merge.Perm(nil, compare)
		merge.Least(nil, 1, compare)
	}
	for what, compare := range map[string]func(a, b thing) int{
		"always ahead":  func(a, b thing) int { return -1 },
		"always behind": func(a, b thing) int { return 1 },
		"now and then":  func(a, b thing) int { asked += 7; return asked%5 - 2 },
		"in a ring":     func(a, b thing) int { return (a.rank-b.rank+4)%3 - 1 },
	} {
		each(func(l []thing) {
			byName := func(a, b thing) int { return cmp.Compare(a.name, b.name) }
			got := merge.Sort(l, compare)
			slices.SortFunc(got, byName)
			if !slices.Equal(got, l) || len(merge.Perm(l, compare)) != len(l) {
				t.Fatalf("%s: of %v became %v", what, l, got)
			}
			merge.Merge(compare, l, l)
			merge.Least(l, 2, compare)
		})
	}
}

func TestP15Example(t *testing.T) {
	byTens := func(a, b int) int { return cmp.Compare(a/10, b/10) }
	l := []int{31, 12, 30, 11}
	if got := merge.Sort(l, byTens); !slices.Equal(got, []int{12, 11, 31, 30}) {
		t.Errorf("%v", got)
	}
	if got := merge.Perm(l, byTens); !slices.Equal(got, []int{1, 3, 0, 2}) {
		t.Errorf("%v", got)
	}
	if got := merge.Least(l, 3, byTens); !slices.Equal(got, []int{12, 11, 31}) {
		t.Errorf("%v", got)
	}
}
