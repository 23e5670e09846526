package motion_test

import (
	"math"
	"slices"
	"strings"
	"testing"

	"damier/api"
	"damier/arena"
	"damier/block"
	"damier/cell"
	"damier/grid"
	"damier/motion"
	"damier/row"
	"damier/scan"
	"damier/tree"
	"damier/walk"
)

// gg is the verb of two keys.
const gg = 256*'g' + 'g'

// verbs are all motions that go somewhere.
func verbs() []int {
	return []int{'h', 'j', 'k', 'l', '0', '$', 'w', 'b', '{', '}', 'G', gg}
}

// others are verbs of which nothing moves.
func others() []int {
	return []int{
		0, -1, math.MinInt, math.MaxInt, 'H', 'L', 'n', 'N', 'g', 'd', 'x', 'J', 'W', '^', '1', 27, 256, 'g' * 256, 'g'*256 + 'j', 'i'*256 + 'c', 'G'*256 + 'G',
		'h' + 256, 'h' - 256, 'h' + 1<<32, '{' + 1<<32, gg + 1<<32, -'j', 256 + 'j', 1000, 1001, 1002, 1003, 1004, 1005,
	}
}

// line tells a row of cells by a text: x has text, . is empty and written, - is empty and kept, and ! ahead of all hides it.
func line(a *arena.Arena, s string) row.Row {
	shown := strings.TrimPrefix(s, "!")
	r := row.Row{End: scan.LF, Hidden: shown != s}
	for _, c := range shown {
		var x cell.Cell
		switch c {
		case 'x':
			x, _ = cell.Put(a, []byte("x"))
		case '-':
			x = cell.Load(scan.Field{Kind: scan.Quoted})
		}
		r.Cells = append(r.Cells, x)
	}
	return r
}

// sheet tells a grid of such rows.
func sheet(a *arena.Arena, l ...string) grid.Grid {
	var rows []row.Row
	for _, s := range l {
		rows = append(rows, line(a, s))
	}
	return grid.Grid{Rows: tree.Of(rows...), End: scan.LF}
}

// eachSheet hands over all grids of up to n rows of some kinds.
func eachSheet(n int, kinds []string, f func(g grid.Grid, a *arena.Arena, l []string)) {
	a, _ := arena.New(nil)
	var grow func(l []string)
	grow = func(l []string) {
		f(sheet(a, l...), a, l)
		for i := 0; i < len(kinds) && len(l) < n; i++ {
			grow(append(slices.Clone(l), kinds[i]))
		}
	}
	grow(nil)
}

// chance tells numbers below n, one after the other, always the same ones.
func chance(seed uint32) func(n int) int {
	return func(n int) int {
		seed = seed*1664525 + 1013904223
		return int(seed>>8) % n
	}
}

// tall hands over some grids of many rows.
func tall(f func(g grid.Grid, a *arena.Arena, l []string)) {
	for i, high := range []int{7, 12, 30, 61, api.MaxRows} {
		a, _ := arena.New(nil)
		next := chance(uint32(i))
		var l []string
		for range high {
			s := ""
			if next(3) == 0 {
				s = "!"
			}
			for range 1 + next(5) {
				s += []string{"x", ".", "-", "x"}[next(4)]
			}
			l = append(l, s)
		}
		f(sheet(a, l...), a, l)
		for i := range l {
			l[i] = "!" + strings.TrimPrefix(l[i], "!")
		}
		f(sheet(a, l...), a, l)
	}
}

// width tells by the words how wide a grid of such rows is.
func width(l []string) int {
	n := 0
	for _, s := range l {
		n = max(n, len(strings.TrimPrefix(s, "!")))
	}
	return n
}

// visible tells the numbers of the rows that are not hidden.
func visible(l []string) []int {
	var seen []int
	for i, s := range l {
		if !strings.HasPrefix(s, "!") {
			seen = append(seen, i)
		}
	}
	return seen
}

// settled tells by the words which place is settled for one.
func settled(l []string, p motion.Place) motion.Place {
	q := motion.Place{}
	for c := range width(l) {
		if c <= p.C {
			q.C = c
		}
	}
	r := p.R
	if r >= len(l) {
		r = len(l) - 1
	}
	if r < 0 {
		r = 0
	}
	seen := visible(l)
	if i := slices.IndexFunc(seen, func(n int) bool { return n >= r }); i >= 0 {
		q.R = seen[i]
	} else if len(seen) > 0 {
		q.R = seen[len(seen)-1]
	}
	return q
}

// isSettled tells by the words whether a place is settled.
func isSettled(l []string, p motion.Place) bool {
	if p.C < 0 || p.C > 0 && p.C >= width(l) {
		return false
	}
	seen := visible(l)
	return slices.Contains(seen, p.R) || len(seen) == 0 && p.R == 0
}

// some are places within and around a grid, and far from it.
func some(l []string) []motion.Place {
	rows, cols := []int{-1 << 40, -2, 1 << 40}, []int{-1 << 40, -2, 1 << 40}
	for r := -1; r <= len(l)+1; r++ {
		rows = append(rows, r)
	}
	for c := -1; c <= width(l)+1; c++ {
		cols = append(cols, c)
	}
	var all []motion.Place
	for _, r := range rows {
		for _, c := range cols {
			all = append(all, motion.Place{R: r, C: c})
		}
	}
	return all
}

// within are all settled places of a grid.
func within(l []string) []motion.Place {
	seen := visible(l)
	if len(seen) == 0 {
		seen = []int{0}
	}
	var all []motion.Place
	for _, r := range seen {
		for c := range max(width(l), 1) {
			all = append(all, motion.Place{R: r, C: c})
		}
	}
	return all
}

func TestP26_1Settle(t *testing.T) {
	check := func(g grid.Grid, _ *arena.Arena, l []string) {
		for _, p := range some(l) {
			if got, want := motion.Settle(g, p), settled(l, p); got != want || !isSettled(l, got) {
				t.Fatalf("%q: %v: %v, not %v", l, p, got, want)
			}
		}
		for _, p := range within(l) {
			if got := motion.Settle(g, p); got != p || !isSettled(l, p) {
				t.Fatalf("%q: %v: %v", l, p, got)
			}
		}
	}
	eachSheet(5, []string{"x", "!x.", ".xx", "!x"}, check)
	tall(check)
}

func TestP26_1SettleExamples(t *testing.T) {
	a, _ := arena.New(nil)
	g := sheet(a, "!x", "x", "!xx", "!x", ".", "!xxx")
	for p, want := range map[motion.Place]motion.Place{
		{0, 0}: {1, 0}, {-9, 1}: {1, 1}, {1, 2}: {1, 2}, {2, 3}: {4, 2}, {3, -1}: {4, 0}, {4, 9}: {4, 2}, {5, 0}: {4, 0}, {9, 0}: {4, 0},
	} {
		if got := motion.Settle(g, p); got != want {
			t.Errorf("%v: %v, not %v", p, got, want)
		}
	}
	hidden := sheet(a, "!x", "!xx")
	if got := motion.Settle(hidden, motion.Place{R: 1, C: 5}); got != (motion.Place{R: 0, C: 1}) {
		t.Errorf("all hidden: %v", got)
	}
	if got := motion.Settle(grid.Grid{}, motion.Place{R: 3, C: 5}); got != (motion.Place{}) {
		t.Errorf("no rows: %v", got)
	}
}

// full tells whether a row has text in a column.
func full(s string, c int) bool {
	s = strings.TrimPrefix(s, "!")
	return c < len(s) && s[c] == 'x'
}

// read are the places of all cells with text, as cells are read.
func read(l []string) []motion.Place {
	var all []motion.Place
	for _, r := range visible(l) {
		for c := range width(l) {
			if full(l[r], c) {
				all = append(all, motion.Place{R: r, C: c})
			}
		}
	}
	return all
}

// stands tells how two places stand, as cells are read.
func stands(p, q motion.Place) int {
	if p.R != q.R {
		return p.R - q.R
	}
	return p.C - q.C
}

// moved tells by the words where a motion goes from a settled place.
func moved(l []string, p motion.Place, verb, count int) motion.Place {
	seen, wide := visible(l), width(l)
	n := min(max(count, 1), api.MaxCount)
	here := slices.Index(seen, p.R)
	switch verb {
	case 'h':
		p.C = max(p.C-n, 0)
	case 'l':
		p.C = max(min(p.C+n, wide-1), 0)
	case '0':
		p.C = 0
	case '$':
		p.C = 0
		if len(l) > 0 {
			p.C = max(len(strings.TrimPrefix(l[p.R], "!"))-1, 0)
		}
	case 'w', 'b':
		all := slices.DeleteFunc(read(l), func(q motion.Place) bool { return verb == 'w' && stands(q, p) <= 0 || verb == 'b' && stands(q, p) >= 0 })
		if verb == 'b' {
			slices.Reverse(all)
		}
		if len(all) > 0 {
			p = all[min(n, len(all))-1]
		}
	}
	if len(seen) == 0 {
		return p
	}
	switch verb {
	case 'j':
		p.R = seen[min(here+n, len(seen)-1)]
	case 'k':
		p.R = seen[max(here-n, 0)]
	case 'G', gg:
		switch {
		case count >= 1:
			p = settled(l, motion.Place{R: n - 1, C: p.C})
		case verb == 'G':
			p.R = seen[len(seen)-1]
		default:
			p.R = seen[0]
		}
	case '}':
		p.R = seen[changes(l, seen, p.C, here, n, 1)]
	case '{':
		p.R = seen[changes(l, seen, p.C, here, n, -1)]
	}
	return p
}

// changes tells, of rows that are seen, behind how many by from the one of number i the n-th change of a column's cells between empty and not lies.
func changes(l []string, seen []int, c, i, n, by int) int {
	for j := i + by; 0 <= j && j < len(seen); j += by {
		if full(l[seen[j]], c) != full(l[seen[j-by]], c) {
			n--
		}
		if n == 0 {
			return j
		}
	}
	if by < 0 {
		return 0
	}
	return len(seen) - 1
}

// check says so, if a motion from a place goes elsewhere than the words have it.
func check(t *testing.T, g grid.Grid, a *arena.Arena, l []string, p motion.Place, verb, count int) {
	t.Helper()
	from := settled(l, p)
	want := moved(l, from, verb, count)
	got, is := motion.Move(g, a, p, verb, count)
	if got != want || is != (want != from) {
		t.Fatalf("%q: %v by %d times %q: %v, %v, not %v", l, p, count, rune(verb), got, is, want)
	}
	if !isSettled(l, got) {
		t.Fatalf("%q: %v by %d times %q: %v is not settled", l, p, count, rune(verb), got)
	}
}

func TestP26_2Move(t *testing.T) {
	counts := []int{-1, 0, 1, 2, 3, 5, api.MaxCount}
	all := func(g grid.Grid, a *arena.Arena, l []string) {
		for _, p := range within(l) {
			for _, verb := range verbs() {
				for _, n := range counts {
					check(t, g, a, l, p, verb, n)
				}
			}
		}
	}
	eachSheet(3, []string{"x", ".", "x.", "-x", "x.x", "!x", "!.", "!xx", "!.x"}, all)
	eachSheet(6, []string{"x", ".", "!x"}, all)
}

func TestP26_2MoveFar(t *testing.T) {
	tall(func(g grid.Grid, a *arena.Arena, l []string) {
		next := chance(5)
		for range 80 {
			p := motion.Place{R: next(len(l)+4) - 2, C: next(8) - 1}
			for _, verb := range verbs() {
				for _, n := range []int{0, 1, 2, next(8), next(40), next(api.MaxRows + 3), api.MaxCount} {
					check(t, g, a, l, p, verb, n)
				}
			}
		}
	})
}

func TestP26_2MoveFromAnywhere(t *testing.T) {
	eachSheet(3, []string{"x", ".x", "!x."}, func(g grid.Grid, a *arena.Arena, l []string) {
		for _, p := range some(l) {
			for _, verb := range verbs() {
				for _, n := range []int{math.MinInt, math.MinInt + 1, -1 << 40, 0, 2, api.MaxCount + 1, 1 << 40, math.MaxInt} {
					check(t, g, a, l, p, verb, n)
				}
			}
		}
	})
}

// Of more rows than a file may have: a count is taken up to MaxCount.
func TestP26_2MoveMaxCount(t *testing.T) {
	g := grid.Grid{Rows: tree.Of(slices.Repeat([]row.Row{row.Fresh(1, scan.LF)}, api.MaxCount+9)...)}
	a, _ := arena.New(nil)
	for _, n := range []int{api.MaxCount, api.MaxCount + 1, math.MaxInt} {
		for verb, want := range map[int]int{'j': api.MaxCount, 'G': api.MaxCount - 1, gg: api.MaxCount - 1} {
			if got, is := motion.Move(g, a, motion.Place{}, verb, n); !is || got.R != want {
				t.Errorf("%d times %q: %v, not %d", n, rune(verb), got, want)
			}
		}
		if got, is := motion.Move(g, a, motion.Place{R: api.MaxCount + 8}, 'k', n); !is || got.R != 8 {
			t.Errorf("%d times k: %v", n, got)
		}
	}
}

func TestP26_2MoveOthers(t *testing.T) {
	eachSheet(2, []string{"xx", ".x", "!x."}, func(g grid.Grid, a *arena.Arena, l []string) {
		for _, p := range some(l) {
			for _, verb := range others() {
				for _, n := range []int{math.MinInt, 0, 1, 2, math.MaxInt} {
					if got, is := motion.Move(g, a, p, verb, n); is || got != settled(l, p) {
						t.Fatalf("%q: %v by %d: %v, %v", l, p, verb, got, is)
					}
				}
			}
		}
	})
}

func TestP26_2Examples(t *testing.T) {
	// A field without bytes and one of quotes alone are empty, whatever raw bytes they have.
	g, a, _ := grid.Load([]byte("a,\"\",c\n\n,b\n,,d,e\nf\n"))
	for _, x := range []struct {
		p           motion.Place
		verb, count int
		want        motion.Place
	}{
		{motion.Place{R: 0, C: 0}, 'w', 1, motion.Place{R: 0, C: 2}},
		{motion.Place{R: 0, C: 0}, 'w', 2, motion.Place{R: 2, C: 1}},
		{motion.Place{R: 0, C: 3}, 'w', 1, motion.Place{R: 2, C: 1}},
		{motion.Place{R: 1, C: 2}, 'w', 9, motion.Place{R: 4, C: 0}},
		{motion.Place{R: 4, C: 0}, 'w', 1, motion.Place{R: 4, C: 0}},
		{motion.Place{R: 4, C: 3}, 'b', 1, motion.Place{R: 4, C: 0}},
		{motion.Place{R: 3, C: 3}, 'b', 2, motion.Place{R: 2, C: 1}},
		{motion.Place{R: 1, C: 3}, 'b', 1, motion.Place{R: 0, C: 2}},
		{motion.Place{R: 0, C: 1}, 'b', 7, motion.Place{R: 0, C: 0}},
		{motion.Place{R: 0, C: 0}, '}', 1, motion.Place{R: 1, C: 0}},
		{motion.Place{R: 0, C: 0}, '}', 2, motion.Place{R: 4, C: 0}},
		{motion.Place{R: 0, C: 2}, '}', 1, motion.Place{R: 1, C: 2}},
		{motion.Place{R: 0, C: 3}, '}', 1, motion.Place{R: 3, C: 3}},
		{motion.Place{R: 0, C: 3}, '}', 3, motion.Place{R: 4, C: 3}},
		{motion.Place{R: 4, C: 0}, '{', 1, motion.Place{R: 3, C: 0}},
		{motion.Place{R: 4, C: 0}, '{', 2, motion.Place{R: 0, C: 0}},
		{motion.Place{R: 1, C: 1}, '{', 1, motion.Place{R: 0, C: 1}},
		{motion.Place{R: 1, C: 3}, '$', 1, motion.Place{R: 1, C: 0}},
		{motion.Place{R: 0, C: 0}, '$', 5, motion.Place{R: 0, C: 2}},
		{motion.Place{R: 0, C: 3}, '0', 2, motion.Place{R: 0, C: 0}},
		{motion.Place{R: 4, C: 0}, 'l', 2, motion.Place{R: 4, C: 2}},
		{motion.Place{R: 4, C: 0}, 'l', 9, motion.Place{R: 4, C: 3}},
		{motion.Place{R: 2, C: 1}, 'j', 1, motion.Place{R: 3, C: 1}},
		{motion.Place{R: 2, C: 3}, 'k', 9, motion.Place{R: 0, C: 3}},
		{motion.Place{R: 2, C: 1}, 'G', 0, motion.Place{R: 4, C: 1}},
		{motion.Place{R: 2, C: 1}, 'G', 4, motion.Place{R: 3, C: 1}},
		{motion.Place{R: 2, C: 1}, 'G', 9, motion.Place{R: 4, C: 1}},
		{motion.Place{R: 2, C: 1}, gg, 0, motion.Place{R: 0, C: 1}},
		{motion.Place{R: 2, C: 1}, gg, 2, motion.Place{R: 1, C: 1}},
	} {
		got, is := motion.Move(g, a, x.p, x.verb, x.count)
		if got != x.want || is != (x.want != x.p) {
			t.Errorf("%v by %d times %q: %v, %v, not %v", x.p, x.count, rune(x.verb), got, is, x.want)
		}
	}
}

func TestP26_3Numbers(t *testing.T) {
	if motion.Cells != 0 || motion.Rows != 1 {
		t.Error(motion.Cells, motion.Rows)
	}
}

func TestP26_3Kind(t *testing.T) {
	rows := []int{'j', 'k', 'G', gg, '{', '}'}
	for _, verb := range slices.Concat(verbs(), others()) {
		want := motion.Cells
		if slices.Contains(rows, verb) {
			want = motion.Rows
		}
		if got := motion.Kind(verb); got != want {
			t.Errorf("%d: %d", verb, got)
		}
	}
	for verb := range 1 << 16 {
		if got := motion.Kind(verb) == motion.Rows; got != slices.Contains(rows, verb) {
			t.Errorf("%d: %v", verb, got)
		}
	}
}

// between tells by the words the area of two places and all between.
func between(l []string, p, q motion.Place, rows bool) block.Area {
	if len(l) == 0 {
		return block.Area{}
	}
	p, q = settled(l, p), settled(l, q)
	in := func(n, i, j int) bool { return i <= n && n <= j || j <= n && n <= i }
	x := block.Area{R: -1, C: -1}
	for r := range len(l) {
		if in(r, p.R, q.R) {
			x.H++
			if x.R < 0 {
				x.R = r
			}
		}
	}
	for c := range width(l) {
		if rows || in(c, p.C, q.C) {
			x.W++
			if x.C < 0 {
				x.C = c
			}
		}
	}
	return x
}

func TestP26_3Area(t *testing.T) {
	check := func(g grid.Grid, l []string, p, q motion.Place) {
		for _, verb := range []int{'j', 'G', gg, '{', 'l', 'w', '$', 'd', -1} {
			want := between(l, p, q, motion.Kind(verb) == motion.Rows)
			if got := motion.Area(g, p, q, verb); got != want {
				t.Fatalf("%q: %v to %v by %d: %v, not %v", l, p, q, verb, got, want)
			}
			if len(l) > 0 && !block.Has(g, want) {
				t.Fatalf("%q: %v to %v by %d: %v is not in the grid", l, p, q, verb, want)
			}
		}
	}
	eachSheet(3, []string{"x", ".x", "!x.", "!xxx"}, func(g grid.Grid, _ *arena.Arena, l []string) {
		for _, p := range some(l) {
			for _, q := range append(within(l), motion.Place{R: -1, C: 9}, motion.Place{R: 9, C: -1}, p) {
				check(g, l, p, q)
				check(g, l, q, p)
			}
		}
	})
	tall(func(g grid.Grid, _ *arena.Arena, l []string) {
		next := chance(3)
		for range 200 {
			p, q := motion.Place{R: next(len(l)), C: next(6)}, motion.Place{R: next(len(l)), C: next(6)}
			check(g, l, p, q)
		}
	})
}

func TestP26_4ThereAndBack(t *testing.T) {
	back := map[int]int{'h': 'l', 'l': 'h', 'j': 'k', 'k': 'j'}
	far := func(p, q motion.Place, l []string) int {
		seen := visible(l)
		n := slices.Index(seen, p.R) - slices.Index(seen, q.R) + p.C - q.C
		return max(n, -n)
	}
	check := func(g grid.Grid, a *arena.Arena, l []string) {
		for _, p := range within(l) {
			for _, verb := range slices.Concat(verbs(), others()) {
				for _, n := range []int{0, 1, 2, 3, 20} {
					q, is := motion.Move(g, a, p, verb, n)
					if motion.Settle(g, q) != q || is != (q != p) {
						t.Fatalf("%q: %v by %d times %q: %v, %v", l, p, n, rune(verb), q, is)
					}
					if !is || back[verb] == 0 {
						continue
					}
					if got, is := motion.Move(g, a, q, back[verb], far(p, q, l)); got != p || !is {
						t.Fatalf("%q: %v by %d times %q, and back: %v", l, p, n, rune(verb), got)
					}
				}
			}
		}
	}
	eachSheet(4, []string{"x", ".x", "!xx"}, check)
}

func TestP1MotionChangesNothing(t *testing.T) {
	a, _ := arena.New(nil)
	l := []string{"x.", "!xx", ".-x", "!", "x"}
	g := sheet(a, l...)
	old, room := sheet(a, l...), a.Room()
	for _, p := range some(l) {
		for _, verb := range slices.Concat(verbs(), others()) {
			motion.Settle(g, p)
			motion.Move(g, a, p, verb, 2)
			motion.Area(g, p, motion.Place{R: 4, C: 1}, verb)
		}
	}
	if !grid.Same(a, g, old) || a.Room() != room {
		t.Error("the grid, or the arena, is another one")
	}
}

func TestP1MotionAnyArguments(t *testing.T) {
	a, _ := arena.New([]byte("ab"))
	numbers := []int{math.MinInt, math.MinInt + 1, -1 << 40, -1, 0, 1, 2, 39, 40, 1 << 40, math.MaxInt - 1, math.MaxInt}
	odd := cell.Cell{Raw: arena.Span{At: -5, N: 1 << 30}, Kept: true}
	grids := []grid.Grid{
		{}, {Tail: true, End: -9},
		{Rows: tree.Of(row.Row{}), End: 99},
		{Rows: tree.Of(row.Row{}, row.Row{Hidden: true, Cells: []cell.Cell{odd, {}}}, row.Row{End: -1})},
		{Rows: tree.Of(row.Row{Cells: make([]cell.Cell, api.MaxCols+9)}, row.Row{Cells: []cell.Cell{odd}})},
		{Rows: tree.Of(slices.Repeat([]row.Row{{Hidden: true}}, api.MaxRows+9)...)},
	}
	for _, g := range grids {
		before := walk.All(g.Rows)
		for _, a := range []*arena.Arena{nil, {}, a} {
			for _, r := range numbers {
				for _, c := range numbers {
					p := motion.Place{R: r, C: c}
					q := motion.Settle(g, p)
					if motion.Settle(g, q) != q {
						t.Fatalf("%v of %d rows: %v", p, g.Len(), q)
					}
					for _, verb := range slices.Concat(verbs(), others()) {
						to, is := motion.Move(g, a, p, verb, numbers[(r^c)&7])
						if is != (to != q) || motion.Settle(g, to) != to {
							t.Fatalf("%v of %d rows by %d: %v, %v", p, g.Len(), verb, to, is)
						}
					}
					motion.Area(g, p, motion.Place{R: c, C: r}, 'l')
					if x := motion.Area(g, p, motion.Place{R: c, C: r}, 'j'); g.Len() == 0 && x != (block.Area{}) {
						t.Fatalf("%v of no rows: %v", p, x)
					}
				}
			}
		}
		if len(before) != g.Len() {
			t.Fatal("rows came or went")
		}
	}
}

func TestP26Examples(t *testing.T) {
	g, a, _ := grid.Load([]byte("a,b\nc"))
	if got, is := motion.Move(g, a, motion.Place{R: 1}, 'l', 1); got != (motion.Place{R: 1, C: 1}) || !is {
		t.Errorf("%v, %v", got, is)
	}
	if _, there := g.At(1, 1); there {
		t.Error("there is a cell")
	}
}
