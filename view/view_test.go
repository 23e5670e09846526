package view_test

import (
	"math"
	"slices"
	"strings"
	"testing"

	"damier/api"
	"damier/arena"
	"damier/cell"
	"damier/grid"
	"damier/motion"
	"damier/row"
	"damier/scan"
	"damier/tree"
	"damier/view"
	"damier/walk"
)

// line tells a row of cells by a text: of each letter a cell that has it, of . an empty one; ! ahead of all hides it.
func line(a *arena.Arena, s string) row.Row {
	r := row.Row{End: scan.LF, Hidden: !shown(s)}
	for _, c := range cells(s) {
		var x cell.Cell
		if c != '.' {
			x, _ = cell.Put(a, []byte(string(c)))
		}
		r.Cells = append(r.Cells, x)
	}
	return r
}

// sheet tells a grid of such rows.
func sheet(a *arena.Arena, l ...string) grid.Grid {
	var rows []row.Row
	for _, s := range l {
		rows = append(rows, line(a, s))
	}
	return grid.Grid{Rows: tree.Of(rows...), End: scan.LF}
}

// eachSheet hands over all grids of up to n rows of some kinds.
func eachSheet(n int, kinds []string, f func(g grid.Grid, a *arena.Arena, l []string)) {
	a, _ := arena.New(nil)
	var grow func(l []string)
	grow = func(l []string) {
		f(sheet(a, l...), a, l)
		for i := 0; i < len(kinds) && len(l) < n; i++ {
			grow(append(slices.Clone(l), kinds[i]))
		}
	}
	grow(nil)
}

// chance tells numbers below n, one after the other, always the same ones.
func chance(seed uint32) func(n int) int {
	return func(n int) int {
		seed = seed*1664525 + 1013904223
		return int(seed>>8) % n
	}
}

// great hands over some grids of many rows and columns, with a choice of numbers.
func great(f func(g grid.Grid, a *arena.Arena, l []string, next func(n int) int)) {
	for i, high := range []int{7, 23, 100, api.MaxRows, api.MaxRows} {
		a, _ := arena.New(nil)
		next := chance(uint32(i))
		var l []string
		for range high {
			s := strings.Repeat("!", next(3)/2)
			for range 1 + next(api.MaxCols) {
				s += string("abcd.."[next(6)])
			}
			l = append(l, s)
		}
		f(sheet(a, l...), a, l, next)
		for r := range l {
			l[r] = "!" + cells(l[r])
		}
		f(sheet(a, l...), a, l, next)
	}
}

// cells tells the letters of a row's cells.
func cells(s string) string {
	return strings.TrimPrefix(s, "!")
}

// shown tells whether a row is not hidden.
func shown(s string) bool {
	return !strings.HasPrefix(s, "!")
}

// width tells by the words how wide a grid of such rows is.
func width(l []string) int {
	n := 0
	for _, s := range l {
		n = max(n, len(cells(s)))
	}
	return n
}

// visible tells the numbers of the rows that are not hidden.
func visible(l []string) []int {
	var rows []int
	for r, s := range l {
		if shown(s) {
			rows = append(rows, r)
		}
	}
	return rows
}

// settled tells by the words which place is settled for one.
func settled(l []string, p motion.Place) motion.Place {
	q := motion.Place{}
	for c := range width(l) {
		if c <= p.C {
			q.C = c
		}
	}
	for _, r := range visible(l) {
		q.R = r
		if r >= p.R {
			break
		}
	}
	return q
}

// seen tells by the words which rows are seen.
func seen(l []string, v view.View) []int {
	var rows []int
	for _, r := range visible(l) {
		if r >= v.Top && len(rows) < v.Height {
			rows = append(rows, r)
		}
	}
	return rows
}

// followed tells by the words the view that follows to a place.
func followed(l []string, v view.View, p motion.Place) view.View {
	p = settled(l, p)
	rows := visible(l)
	switch at := slices.Index(rows, p.R); {
	case len(rows) == 0:
		v.Top = 0
	case p.R < v.Top:
		v.Top = p.R
	case slices.Contains(seen(l, v), p.R):
	case at < v.Height:
		v.Top = rows[0]
	default:
		v.Top = rows[at-(v.Height-1)]
	}
	if p.C < v.Left {
		v.Left = p.C
	} else if p.C > v.Left+v.Width-1 {
		v.Left = p.C - (v.Width - 1)
	}
	return v
}

// stepped tells by the words the row that is n rows further on than a settled one, or back.
func stepped(l []string, r, n int) int {
	rows := visible(l)
	n = max(min(n, api.MaxRows), -api.MaxRows)
	at := slices.Index(rows, r)
	if at < 0 {
		return r
	}
	return rows[max(min(at+n, len(rows)-1), 0)]
}

// places are those of a grid, and about it.
func places(l []string) []motion.Place {
	all := []motion.Place{{R: -1 << 40, C: 1}, {R: 1 << 40, C: -1 << 40}, {C: 1 << 40}}
	for r := -1; r <= len(l); r++ {
		for c := -1; c <= width(l); c++ {
			all = append(all, motion.Place{R: r, C: c})
		}
	}
	return all
}

// views are small and great ones from the places of a grid on, and from some behind it.
func views(l []string) []view.View {
	var all []view.View
	lefts := []int{api.MaxCols, 1 << 40}
	for c := range width(l) + 2 {
		lefts = append(lefts, c)
	}
	tops := []int{1 << 40}
	for r := range len(l) + 2 {
		tops = append(tops, r)
	}
	for _, top := range tops {
		for _, left := range lefts {
			for _, height := range []int{1, 2, 3, api.MaxRows} {
				for _, width := range []int{1, 2, api.MaxCols} {
					all = append(all, view.View{Top: top, Left: left, Height: height, Width: width})
				}
			}
		}
	}
	return all
}

// anyView tells some view of a great grid.
func anyView(l []string, next func(n int) int) view.View {
	v := view.View{Top: next(len(l) + 3), Left: next(api.MaxCols + 3), Height: 1 + next(30), Width: 1 + next(api.MaxCols)}
	if next(9) == 0 {
		v.Height = api.MaxRows - next(3)
	}
	return v
}

// anyPlace tells some place in a great grid, or about it.
func anyPlace(l []string, next func(n int) int) motion.Place {
	return motion.Place{R: next(len(l)+4) - 2, C: next(api.MaxCols+4) - 2}
}

// kinds are rows of small grids.
func kinds() []string {
	return []string{"a", "!bcd", ".e"}
}

func TestP29_1New(t *testing.T) {
	numbers := map[int][2]int{
		math.MinInt: {1, 1}, -1: {1, 1}, 0: {1, 1}, 1: {1, 1}, 2: {2, 2}, 39: {39, 39}, 40: {40, 40}, 41: {41, 40}, 399: {399, 40}, 400: {400, 40}, 401: {400, 40}, math.MaxInt: {400, 40},
	}
	for height, h := range numbers {
		for width, w := range numbers {
			if got, want := view.New(height, width), (view.View{Height: h[0], Width: w[1]}); got != want {
				t.Errorf("%d, %d: %v, not %v", height, width, got, want)
			}
		}
	}
}

func TestP29_1Rows(t *testing.T) {
	check := func(g grid.Grid, l []string, v view.View) {
		if got, want := v.Rows(g), seen(l, v); !slices.Equal(got, want) {
			t.Fatalf("%q by %v: %v, not %v", l, v, got, want)
		}
	}
	eachSheet(5, kinds(), func(g grid.Grid, _ *arena.Arena, l []string) {
		for _, v := range views(l) {
			check(g, l, v)
		}
	})
	great(func(g grid.Grid, _ *arena.Arena, l []string, next func(n int) int) {
		for range 300 {
			check(g, l, anyView(l, next))
		}
	})
}

func TestP29_2Follow(t *testing.T) {
	check := func(g grid.Grid, l []string, v view.View, p motion.Place) {
		if got, want := v.Follow(g, p), followed(l, v, p); got != want {
			t.Fatalf("%q by %v to %v: %v, not %v", l, v, p, got, want)
		}
	}
	eachSheet(4, kinds(), func(g grid.Grid, _ *arena.Arena, l []string) {
		for _, v := range views(l) {
			for _, p := range places(l) {
				check(g, l, v, p)
			}
		}
	})
	great(func(g grid.Grid, _ *arena.Arena, l []string, next func(n int) int) {
		for range 200 {
			check(g, l, anyView(l, next), anyPlace(l, next))
		}
	})
}

func TestP29_2FollowExamples(t *testing.T) {
	a, _ := arena.New(nil)
	g := sheet(a, "!x", "xxxxx", "x", "!x", "!x", "x", "x", "!x", "x")
	for _, x := range []struct {
		v    view.View
		p    motion.Place
		want view.View
	}{
		{view.View{Top: 2, Left: 1, Height: 2, Width: 2}, motion.Place{R: 5, C: 2}, view.View{Top: 2, Left: 1, Height: 2, Width: 2}},
		{view.View{Top: 2, Left: 1, Height: 2, Width: 2}, motion.Place{R: 1, C: 0}, view.View{Top: 1, Left: 0, Height: 2, Width: 2}},
		{view.View{Top: 2, Left: 1, Height: 2, Width: 2}, motion.Place{R: 0, C: 4}, view.View{Top: 1, Left: 3, Height: 2, Width: 2}},
		{view.View{Top: 2, Left: 0, Height: 2, Width: 2}, motion.Place{R: 6, C: 2}, view.View{Top: 5, Left: 1, Height: 2, Width: 2}},
		{view.View{Top: 1, Left: 0, Height: 3, Width: 3}, motion.Place{R: 7, C: 9}, view.View{Top: 5, Left: 2, Height: 3, Width: 3}},
		{view.View{Top: 4, Left: 0, Height: 1, Width: 1}, motion.Place{R: 3}, view.View{Top: 4, Left: 0, Height: 1, Width: 1}},
		{view.View{Top: 9, Left: 9, Height: 5, Width: 5}, motion.Place{R: 9, C: 9}, view.View{Top: 8, Left: 4, Height: 5, Width: 5}},
	} {
		if got := x.v.Follow(g, x.p); got != x.want {
			t.Errorf("%v to %v: %v, not %v", x.v, x.p, got, x.want)
		}
	}
	hidden := sheet(a, "!x", "!xx")
	for _, top := range []int{0, 1, 2, 1 << 40} {
		v := view.View{Top: top, Left: 5, Height: 1, Width: 1}
		if got := v.Follow(hidden, motion.Place{R: 1, C: 1}); got != (view.View{Left: 1, Height: 1, Width: 1}) {
			t.Errorf("all hidden: %v", got)
		}
		if got := v.Follow(grid.Grid{}, motion.Place{R: 1, C: 1}); got != (view.View{Height: 1, Width: 1}) {
			t.Errorf("no rows: %v", got)
		}
	}
}

func TestP29_3Scroll(t *testing.T) {
	check := func(g grid.Grid, l []string, v view.View, p motion.Place, n int) {
		wantPlace := settled(l, p)
		wantPlace.R = stepped(l, wantPlace.R, n)
		want := v
		want.Top = stepped(l, settled(l, motion.Place{R: v.Top}).R, n)
		want = followed(l, want, wantPlace)
		if got, place := v.Scroll(g, p, n); got != want || place != wantPlace {
			t.Fatalf("%q by %v from %v, %d rows: %v and %v, not %v and %v", l, v, p, n, got, place, want, wantPlace)
		}
	}
	eachSheet(3, kinds(), func(g grid.Grid, _ *arena.Arena, l []string) {
		for i, v := range views(l) {
			for k, p := range places(l) {
				steps := []int{-400, -2, -1, 0, 1, 2, 400, math.MinInt, math.MaxInt}
				check(g, l, v, p, steps[(i+k)%len(steps)])
			}
		}
	})
	great(func(g grid.Grid, _ *arena.Arena, l []string, next func(n int) int) {
		for range 60 {
			check(g, l, anyView(l, next), anyPlace(l, next), next(60)-30)
			check(g, l, anyView(l, next), anyPlace(l, next), next(1000)-500)
		}
	})
}

func TestP29_3ScrollExamples(t *testing.T) {
	a, _ := arena.New(nil)
	g := sheet(a, "x", "!x", "xx", "x", "!x", "x", "x")
	for _, x := range []struct {
		top   int
		p     motion.Place
		n     int
		want  int
		place motion.Place
	}{
		{0, motion.Place{C: 1}, 1, 2, motion.Place{R: 2, C: 1}},
		{0, motion.Place{R: 2}, 2, 3, motion.Place{R: 5}},
		{0, motion.Place{R: 2}, 9, 6, motion.Place{R: 6}},
		{3, motion.Place{R: 5}, -1, 2, motion.Place{R: 3}},
		{3, motion.Place{R: 5}, -9, 0, motion.Place{}},
		{1, motion.Place{R: 3}, 0, 2, motion.Place{R: 3}},
		{1, motion.Place{R: 4}, 0, 3, motion.Place{R: 5}},
		{5, motion.Place{}, 1, 2, motion.Place{R: 2}},
	} {
		v, p := view.View{Top: x.top, Height: 2, Width: 2}.Scroll(g, x.p, x.n)
		if v != (view.View{Top: x.want, Height: 2, Width: 2}) || p != x.place {
			t.Errorf("from %d and %v, %d rows: %v, %v", x.top, x.p, x.n, v, p)
		}
	}
}

// The greatest grid takes as many rows as a scroll is taken for, but one.
func TestP29_3ScrollFar(t *testing.T) {
	a, _ := arena.New(nil)
	g := sheet(a, slices.Repeat([]string{"x"}, api.MaxRows)...)
	for _, n := range []int{api.MaxRows - 1, api.MaxRows, api.MaxRows + 1, math.MaxInt} {
		if v, p := view.New(5, 5).Scroll(g, motion.Place{}, n); v.Top != api.MaxRows-1 || p.R != api.MaxRows-1 {
			t.Errorf("%d rows on: %v, %v", n, v, p)
		}
		if v, p := (view.View{Top: api.MaxRows - 1, Height: 5, Width: 5}).Scroll(g, motion.Place{R: api.MaxRows - 1}, -n); v.Top != 0 || p.R != 0 {
			t.Errorf("%d rows back: %v, %v", n, v, p)
		}
	}
}

func TestP29_4HighLow(t *testing.T) {
	check := func(g grid.Grid, l []string, v view.View, p motion.Place, n int) {
		high := settled(l, p)
		low := high
		if rows := seen(l, v); len(rows) > 0 {
			k := max(min(n, len(rows)), 1)
			high.R, low.R = rows[k-1], rows[len(rows)-k]
		}
		if got := v.High(g, p, n); got != high {
			t.Fatalf("%q by %v: the %d-th one, from %v: %v, not %v", l, v, n, p, got, high)
		}
		if got := v.Low(g, p, n); got != low {
			t.Fatalf("%q by %v: the %d-th one of the end, from %v: %v, not %v", l, v, n, p, got, low)
		}
	}
	eachSheet(3, kinds(), func(g grid.Grid, _ *arena.Arena, l []string) {
		for i, v := range views(l) {
			for k, p := range places(l) {
				numbers := []int{math.MinInt, -1, 0, 1, 2, 3, 4, 400, math.MaxInt}
				check(g, l, v, p, numbers[(i+k)%len(numbers)])
			}
		}
	})
	great(func(g grid.Grid, _ *arena.Arena, l []string, next func(n int) int) {
		for range 200 {
			check(g, l, anyView(l, next), anyPlace(l, next), next(40)-3)
		}
	})
}

// texts tells by the words what is seen of a grid.
func texts(l []string, v view.View) [][]string {
	var all [][]string
	for _, r := range seen(l, v) {
		var of []string
		for c := range api.MaxCols {
			switch {
			case c < v.Left || c-v.Left >= v.Width:
			case c < len(cells(l[r])):
				of = append(of, strings.Trim(cells(l[r])[c:c+1], "."))
			default:
				of = append(of, "")
			}
		}
		all = append(all, of)
	}
	return all
}

func TestP29_5Texts(t *testing.T) {
	check := func(g grid.Grid, a *arena.Arena, l []string, v view.View) {
		if got, want := v.Texts(g, a), texts(l, v); !slices.EqualFunc(got, want, slices.Equal[[]string]) {
			t.Fatalf("%q by %v: %q, not %q", l, v, got, want)
		}
	}
	eachSheet(4, append(kinds(), "!", ""), func(g grid.Grid, a *arena.Arena, l []string) {
		for _, v := range views(l) {
			check(g, a, l, v)
		}
	})
	great(func(g grid.Grid, a *arena.Arena, l []string, next func(n int) int) {
		for range 300 {
			check(g, a, l, anyView(l, next))
		}
	})
}

func TestP29_5TextsExamples(t *testing.T) {
	g, a, _ := grid.Load([]byte("\"a,\"\"\",b,c\nd\n\"open"))
	for _, x := range []struct {
		v    view.View
		want [][]string
	}{
		{view.View{Height: 9, Width: 2}, [][]string{{"a,\"", "b"}, {"d", ""}, {"open", ""}}},
		{view.View{Top: 1, Height: 1, Width: 3}, [][]string{{"d", "", ""}}},
		{view.View{Left: 38, Height: 1, Width: 9}, [][]string{{"", ""}}},
		{view.View{Left: 40, Height: 2, Width: 9}, [][]string{{}, {}}},
		{view.View{Top: 3, Height: 2, Width: 9}, nil},
	} {
		if got := x.v.Texts(g, a); !slices.EqualFunc(got, x.want, slices.Equal[[]string]) {
			t.Errorf("%v: %q, not %q", x.v, got, x.want)
		}
	}
}

func TestP29_6Theorem(t *testing.T) {
	check := func(g grid.Grid, l []string, v view.View, p motion.Place) {
		w := v.Follow(g, p)
		at := motion.Settle(g, p)
		sees := func(v view.View) bool {
			return slices.Contains(v.Rows(g), at.R) && v.Left <= at.C && at.C-v.Left < v.Width
		}
		if len(visible(l)) > 0 && !sees(w) || len(visible(l)) == 0 && w.Top != 0 {
			t.Fatalf("%q by %v: %v does not see %v", l, v, w, at)
		}
		if again := w.Follow(g, p); again != w {
			t.Fatalf("%q by %v to %v: %v, and then %v", l, v, p, w, again)
		}
		if sees(v) && w != v {
			t.Fatalf("%q: %v sees %v, and became %v", l, v, at, w)
		}
	}
	eachSheet(3, kinds(), func(g grid.Grid, _ *arena.Arena, l []string) {
		for _, v := range views(l) {
			for _, p := range places(l) {
				check(g, l, v, p)
			}
		}
	})
	great(func(g grid.Grid, _ *arena.Arena, l []string, next func(n int) int) {
		for range 200 {
			check(g, l, anyView(l, next), anyPlace(l, next))
		}
	})
}

func TestP29Examples(t *testing.T) {
	a, _ := arena.New(nil)
	g := sheet(a, "x", "x", "x", "x", "x")
	if v := view.New(2, 3).Follow(g, motion.Place{R: 4}); v != (view.View{Top: 3, Height: 2, Width: 3}) {
		t.Error(v)
	}
}

func TestP1ViewChangesNothing(t *testing.T) {
	a, _ := arena.New(nil)
	l := []string{"ab", "!cd", "e", ".f", "!", "gh"}
	g, old := sheet(a, l...), sheet(a, l...)
	room := a.Room()
	for _, v := range views(l) {
		w := v
		for n, p := range places(l) {
			v.Follow(g, p)
			v.Scroll(g, p, n-9)
			v.High(g, p, n)
			v.Low(g, p, n)
		}
		v.Rows(g)
		v.Texts(g, a)
		if v != w {
			t.Fatalf("%v became %v", w, v)
		}
	}
	if !grid.Same(a, g, old) || a.Room() != room {
		t.Error("the grid, or the arena, is another one")
	}
}

func TestP1ViewOwnMemory(t *testing.T) {
	a, _ := arena.New(nil)
	l := []string{"abc", "!d", "ef", "g", "hi"}
	g, v := sheet(a, l...), view.View{Top: 0, Left: 1, Height: 3, Width: 2}
	rows, all := v.Rows(g), v.Texts(g, a)
	if len(rows) != 3 || len(all) != 3 {
		t.Fatal(rows, all)
	}
	for i := range all {
		_ = append(all[i][:1], "other")
		all[i][0] = "other"
		_ = append(all[i], "more")
		rows[i] = 99
	}
	_, _ = append(rows, 7), append(all, nil)
	if got := v.Rows(g); !slices.Equal(got, seen(l, v)) {
		t.Errorf("rows: %v", got)
	}
	if got := v.Texts(g, a); !slices.EqualFunc(got, texts(l, v), slices.Equal[[]string]) {
		t.Errorf("texts: %q", got)
	}
	if again := v.Texts(g, a); again[0][1] != "c" || again[1][0] != "f" {
		t.Errorf("texts, again: %q", again)
	}
}

func TestP1ViewAnyArguments(t *testing.T) {
	full, _ := arena.New([]byte("ab"))
	odd := cell.Cell{Raw: arena.Span{At: -5, N: 1 << 30}, Kept: true}
	grids := []grid.Grid{
		{}, {Tail: true, End: -9},
		{Rows: tree.Of(row.Row{}), End: 99},
		{Rows: tree.Of(row.Row{}, row.Row{Hidden: true, Cells: []cell.Cell{odd, {}}}, row.Row{End: -1})},
		{Rows: tree.Of(row.Row{Cells: make([]cell.Cell, api.MaxCols+9)}, row.Row{Cells: []cell.Cell{odd}})},
		{Rows: tree.Of(slices.Repeat([]row.Row{{Hidden: true}}, api.MaxRows+9)...)},
		{Rows: tree.Of(slices.Repeat([]row.Row{{Cells: []cell.Cell{{}}}}, api.MaxRows+9)...)},
	}
	numbers := []int{math.MinInt, math.MinInt + 1, -1 << 40, -1, 0, 1, 2, 40, 1 << 40, math.MaxInt - 1, math.MaxInt}
	next := chance(5)
	number := func() int { return numbers[next(len(numbers))] }
	for _, g := range grids {
		before := walk.All(g.Rows)
		for range 400 {
			v := view.View{Top: number(), Left: number(), Height: number(), Width: number()}
			p := motion.Place{R: number(), C: number()}
			v.Rows(g)
			v.Follow(g, p)
			v.Scroll(g, p, number())
			v.High(g, p, number())
			v.Low(g, p, number())
			for _, a := range []*arena.Arena{nil, {}, full} {
				v.Texts(g, a)
			}
			view.New(number(), number()).Scroll(g, p, number())
		}
		if len(before) != g.Len() {
			t.Fatal("rows came or went")
		}
	}
}
