package order_test

import (
	"math"
	"slices"
	"strings"
	"testing"

	"damier/api"
	"damier/arena"
	"damier/cell"
	"damier/grid"
	"damier/num"
	"damier/order"
	"damier/piece"
	"damier/row"
	"damier/scan"
	"damier/tree"
	"damier/walk"
)

// none is told of a row that has no cell in a column.
const none = "none"

// spaced has all texts of these tests, with a blank between.
const spaced = "10 9 x 007 7 +7 -1 a ab 1x 99999999999999999999 "

// put tells a written cell of a text in an arena.
func put(a *arena.Arena, text string) cell.Cell {
	x, err := cell.Put(a, []byte(text))
	if err != api.OK {
		panic("no such cell")
	}
	return x
}

// columns tells a grid whose first column has these texts, and whose second one those; no cell, where a text is none.
// The rows' Ends are their numbers, so that one can be told from another one; the i-th one is hidden, if the i-th bit of hidden is 1.
func columns(a *arena.Arena, first, second []string, hidden int) grid.Grid {
	var rows []row.Row
	for i := range first {
		r := row.Row{End: i, Hidden: hidden>>i&1 == 1}
		for _, text := range []string{first[i], second[i]} {
			if text != none {
				r.Cells = append(r.Cells, put(a, text))
			}
		}
		rows = append(rows, r)
	}
	return grid.Grid{Rows: tree.Of(rows...), Tail: len(first)%2 == 1, End: scan.CR}
}

// texts tells an arena in which all texts of these tests stand.
func texts() *arena.Arena {
	a, _ := arena.New([]byte(spaced))
	return a
}

// eachList hands over all lists of up to so many things of some.
func eachList[T any](most int, some []T, f func(l []T)) {
	var grow func(l []T)
	grow = func(l []T) {
		f(l)
		for i := 0; i < len(some) && len(l) < most; i++ {
			grow(append(slices.Clone(l), some[i]))
		}
	}
	grow(nil)
}

// eachGrid hands over small grids of one column and of two, with all choices of hidden rows, and some as high as may be.
func eachGrid(f func(g grid.Grid, a *arena.Arena)) {
	a := texts()
	eachList(3, []string{"10", "9", "x", "007", "7", "", none}, func(l []string) {
		for hidden := range 1 << len(l) {
			f(columns(a, l, slices.Repeat([]string{none}, len(l)), hidden), a)
		}
	})
	eachList(4, []string{"7/x", "07/10", "7/9", "x/9", "/none"}, func(l []string) {
		var first, second []string
		for _, both := range l {
			x, y, _ := strings.Cut(both, "/")
			first, second = append(first, x), append(second, y)
		}
		for _, hidden := range []int{0, 2, 9} {
			f(columns(a, first, second, hidden), a)
		}
	})
	for _, high := range []int{39, 64, api.MaxRows} {
		f(tall(a, high, 0), a)
		f(tall(a, high, 0x5A0FF0), a)
	}
}

// tall tells a grid of so many rows, of which those of hidden are hidden.
func tall(a *arena.Arena, high, hidden int) grid.Grid {
	some := strings.Split(spaced, " ")
	var first, second []string
	for i := range high {
		first = append(first, some[i*i%len(some)])
		second = append(second, some[i*7%5])
	}
	return columns(a, first, second, hidden)
}

// keys are rows of keys that are right.
func keys() [][]order.By {
	up, down, next, last := order.By{}, order.By{Down: true}, order.By{Col: 1}, order.By{Col: 1, Down: true}
	far := order.By{Col: api.MaxCols - 1, Down: true}
	return [][]order.By{{up}, {down}, {next}, {last}, {far}, {up, next}, {up, last}, {down, next}, {down, last}, {last, down}, {far, up, down, next}, {up, up, last, next}}
}

// wrong are rows of keys that are not right.
func wrong() [][]order.By {
	up := order.By{}
	var all [][]order.By
	for _, c := range []int{math.MinInt, -1, api.MaxCols, math.MaxInt} {
		all = append(all, []order.By{{Col: c}}, []order.By{{Col: c, Down: true}}, []order.By{up, {Col: c}}, []order.By{{Col: c}, up})
	}
	return append(all, nil, []order.By{})
}

// text tells the text of a row's cell; the empty one, if there is none.
func text(r row.Row, a *arena.Arena, c int) []byte {
	if c < 0 || c >= len(r.Cells) {
		return nil
	}
	return r.Cells[c].Bytes(a)
}

// ahead tells by the words whether a row stands ahead of another one by keys.
func ahead(a *arena.Arena, r, s row.Row, l []order.By) bool {
	for _, k := range l {
		x, y := text(r, a, k.Col), text(s, a, k.Col)
		if k.Down {
			x, y = y, x
		}
		switch num.Compare(x, y) {
		case -1:
			return true
		case 1:
			return false
		}
	}
	return false
}

// visible tells the numbers of the rows that are not hidden.
func visible(rows []row.Row) []int {
	var l []int
	for i, r := range rows {
		if !r.Hidden {
			l = append(l, i)
		}
	}
	return l
}

// perm tells by the words what stands at the visible places: always the first one of which none of those left stands ahead.
func perm(rows []row.Row, a *arena.Arena, l []order.By) []int {
	left, all := visible(rows), []int{}
	for len(left) > 0 {
		first := 0
		for i := range left {
			if ahead(a, rows[left[i]], rows[left[first]], l) {
				first = i
			}
		}
		all = append(all, left[first])
		left = slices.Delete(left, first, first+1)
	}
	return all
}

// sameRow tells whether two rows are the same, to the last span.
func sameRow(r, s row.Row) bool {
	return r.End == s.End && r.Hidden == s.Hidden && slices.EqualFunc(r.Cells, s.Cells, func(c, d cell.Cell) bool {
		return c.Kept == d.Kept && c.Raw == d.Raw && piece.Same(c.Text, d.Text)
	})
}

// is says so, if a grid that g became has not these rows, or not as low a tree as may be.
func is(t *testing.T, what string, g, got grid.Grid, want []row.Row) {
	t.Helper()
	if rows := walk.All(got.Rows); !slices.EqualFunc(rows, want, sameRow) {
		t.Fatalf("%s: %+v, not %+v", what, rows, want)
	}
	if got.Tail != g.Tail || got.End != g.End {
		t.Fatalf("%s: %v %d, not %v %d", what, got.Tail, got.End, g.Tail, g.End)
	}
	if got.Rows.Height() > tree.Of(want...).Height() {
		t.Fatalf("%s: a tree of the height %d", what, got.Rows.Height())
	}
}

// refused says so, if an answer is not this error and the zero grid.
func refused(t *testing.T, what string, g grid.Grid, err, want api.Errno) {
	t.Helper()
	if err != want || g.Rows.Root() != nil || g.Tail || g.End != 0 {
		t.Fatalf("%s: %d, not %d", what, err, want)
	}
}

func TestP16_1Right(t *testing.T) {
	for _, l := range keys() {
		if !order.Right(l...) {
			t.Errorf("%v", l)
		}
	}
	for c := range api.MaxCols {
		if !order.Right(order.By{Col: c}, order.By{Col: c, Down: true}) {
			t.Errorf("%d", c)
		}
	}
	if !order.Right(make([]order.By, 1000)...) {
		t.Error("many")
	}
	for _, l := range wrong() {
		if order.Right(l...) {
			t.Errorf("%v", l)
		}
	}
}

func TestP16_1Perm(t *testing.T) {
	eachGrid(func(g grid.Grid, a *arena.Arena) {
		rows := walk.All(g.Rows)
		for _, l := range keys() {
			if got, want := order.Perm(g, a, l...), perm(rows, a, l); !slices.Equal(got, want) {
				t.Fatalf("%q by %v: %v, not %v", g.Save(a), l, got, want)
			}
		}
		is(t, "Perm", g, g, rows)
	})
	a := texts()
	g := tall(a, 20, 0)
	for _, l := range wrong() {
		if got := order.Perm(g, a, l...); len(got) != 0 {
			t.Errorf("%v: %v", l, got)
		}
	}
}

func TestP16_1PermOfAFile(t *testing.T) {
	g, a, _ := grid.Load([]byte("b,2\n\"b\",10\n,\na,2\n\"\"\nb,x\n"))
	for _, x := range []struct {
		l    []order.By
		want []int
	}{
		{[]order.By{{}}, []int{2, 4, 3, 0, 1, 5}},
		{[]order.By{{Down: true}}, []int{0, 1, 5, 3, 2, 4}},
		{[]order.By{{Col: 1}}, []int{0, 3, 1, 2, 4, 5}},
		{[]order.By{{Col: 1, Down: true}}, []int{5, 2, 4, 1, 0, 3}},
		{[]order.By{{}, {Col: 1, Down: true}}, []int{2, 4, 3, 5, 1, 0}},
		{[]order.By{{Col: 1}, {}}, []int{3, 0, 1, 2, 4, 5}},
		{[]order.By{{Col: 2}}, []int{0, 1, 2, 3, 4, 5}},
	} {
		if got := order.Perm(g, a, x.l...); !slices.Equal(got, x.want) {
			t.Errorf("%v: %v, not %v", x.l, got, x.want)
		}
	}
}

// mayBePut tells by the words whether rows of n can be put so.
func mayBePut(n int, places, from []int) bool {
	if len(places) != len(from) {
		return false
	}
	for _, l := range [][]int{places, from} {
		for i, r := range l {
			if r < 0 || r >= n || slices.Contains(l[:i], r) || !slices.Contains(places, r) {
				return false
			}
		}
	}
	return true
}

func checkPut(t *testing.T, g grid.Grid, places, from []int) {
	t.Helper()
	rows := walk.All(g.Rows)
	oldPlaces, oldFrom := slices.Clone(places), slices.Clone(from)
	got, err := order.Put(g, places, from)
	if !mayBePut(len(rows), places, from) {
		refused(t, "Put", got, err, api.ErrArg)
		return
	}
	want := slices.Clone(rows)
	for i := range places {
		want[places[i]] = rows[from[i]]
	}
	if err != api.OK {
		t.Fatalf("%v from %v: %d", places, from, err)
	}
	is(t, "Put", g, got, want)
	is(t, "what was put", g, g, rows)
	if !slices.Equal(places, oldPlaces) || !slices.Equal(from, oldFrom) {
		t.Fatalf("%v from %v became %v from %v", oldPlaces, oldFrom, places, from)
	}
}

func TestP16_2Put(t *testing.T) {
	a := texts()
	for high := range 4 {
		g := tall(a, high, 5)
		var numbers []int
		for r := -1; r <= high; r++ {
			numbers = append(numbers, r)
		}
		eachList(high+1, numbers, func(places []int) {
			eachList(high+1, numbers, func(from []int) { checkPut(t, g, places, from) })
		})
	}
	g := tall(a, 50, 3)
	for _, x := range [][2][]int{
		{{49, 0, 7}, {0, 7, 49}}, {{49, 0, 7}, {49, 0, 7}}, {{49, 0, 7}, {0, 7}}, {{49, 0}, {49, 0, 7}}, {{1, 2}, {2, 3}}, {{1, 1}, {1, 1}}, {{1, 1}, {2, 1}}, {{2, 1}, {1, 1}},
		{{50}, {50}}, {{math.MaxInt}, {math.MaxInt}}, {{math.MinInt}, {math.MinInt}}, {{-1}, {-1}}, {{0}, {math.MaxInt}}, {{1 << 32}, {0}}, {nil, {}}, {nil, {0}}, {{0}, nil},
	} {
		checkPut(t, g, x[0], x[1])
	}
	var up, down []int
	for i := range 50 {
		up, down = append(up, i), append(down, 49-i)
	}
	checkPut(t, g, up, down)
	checkPut(t, g, down, up)
}

func TestP16_2Sort(t *testing.T) {
	eachGrid(func(g grid.Grid, a *arena.Arena) {
		rows := walk.All(g.Rows)
		places := visible(rows)
		for _, l := range keys() {
			want := slices.Clone(rows)
			for i, r := range perm(rows, a, l) {
				want[places[i]] = rows[r]
			}
			got, err := order.Sort(g, a, l...)
			if err != api.OK {
				t.Fatalf("%q by %v: %d", g.Save(a), l, err)
			}
			is(t, "Sort", g, got, want)
		}
		is(t, "what was sorted", g, g, rows)
	})
	a := texts()
	for _, high := range []int{0, 20} {
		g := tall(a, high, 0)
		for _, l := range wrong() {
			got, err := order.Sort(g, a, l...)
			refused(t, "Sort", got, err, api.ErrArg)
		}
	}
}

// hide tells a grid of which these rows are hidden.
func hide(g grid.Grid, l ...int) grid.Grid {
	for _, i := range l {
		r, _ := g.Row(i)
		g, _ = g.Put(i, r.Hide(true))
	}
	return g
}

func TestP16_2SortOfAFile(t *testing.T) {
	for _, x := range []struct {
		file   string
		hidden []int
		by     order.By
		want   string
	}{
		{"10\n9\nx\n007", nil, order.By{}, "007\n9\n10\nx"},
		{"10\n9\nx\n007", nil, order.By{Down: true}, "x\n10\n9\n007"},
		{"10\n9\nx\n007", []int{1}, order.By{}, "007\n9\n10\nx"},
		{"10\n9\nx\n007", []int{0, 3}, order.By{Down: true}, "10\nx\n9\n007"},
		{"\"b\"\r\n\"a\"x,\"\"\"\"\n-1\n7,\"0", []int{2}, order.By{}, "7,\"0\r\n\"a\"x,\"\"\"\"\n-1\n\"b\""},
		{"a,7\nb,07\nc,+7\nd,6", nil, order.By{Col: 1}, "d,6\na,7\nb,07\nc,+7"},
		{"a,7\nb,07\nc,+7\nd,8", nil, order.By{Col: 1, Down: true}, "d,8\na,7\nb,07\nc,+7"},
		{"b,1\na", nil, order.By{Col: 1, Down: true}, "a\nb,1"},
		{"a,x\nb\nc,1\nd,", nil, order.By{Col: 1}, "c,1\nb\nd,\na,x"},
	} {
		g, a, _ := grid.Load([]byte(x.file))
		g = hide(g, x.hidden...)
		got, err := order.Sort(g, a, x.by)
		if s := string(got.Save(a)); err != api.OK || s != x.want {
			t.Errorf("%q by %v: %q %d, not %q", x.file, x.by, s, err, x.want)
		}
	}
}

func TestP16_3Sorted(t *testing.T) {
	eachGrid(func(g grid.Grid, a *arena.Arena) {
		rows := walk.All(g.Rows)
		places := visible(rows)
		for _, l := range keys() {
			want := true
			for i := 1; i < len(places); i++ {
				want = want && !ahead(a, rows[places[i]], rows[places[i-1]], l)
			}
			if order.Sorted(g, a, l...) != want {
				t.Fatalf("%q by %v: not %v", g.Save(a), l, want)
			}
		}
	})
	a := texts()
	for _, high := range []int{0, 1, 20} {
		for _, l := range wrong() {
			if order.Sorted(tall(a, high, 0), a, l...) {
				t.Errorf("%d rows by %v", high, l)
			}
		}
	}
}

// kinds tells by the words how many texts of visible rows are alike no other one's ahead of them.
func kinds(rows []row.Row, a *arena.Arena, c int) int {
	var unlike [][]byte
	for _, i := range visible(rows) {
		x := text(rows[i], a, c)
		if !slices.ContainsFunc(unlike, func(y []byte) bool { return num.Compare(x, y) == 0 }) {
			unlike = append(unlike, x)
		}
	}
	return len(unlike)
}

func TestP16_3Kinds(t *testing.T) {
	eachGrid(func(g grid.Grid, a *arena.Arena) {
		rows := walk.All(g.Rows)
		for _, c := range []int{math.MinInt, -1, 0, 1, 2, api.MaxCols - 1, api.MaxCols, math.MaxInt} {
			if got, want := order.Kinds(g, a, c), kinds(rows, a, c); got != want {
				t.Fatalf("%d of %q: %d, not %d", c, g.Save(a), got, want)
			}
		}
	})
	g, a, _ := grid.Load([]byte("7,a\n\"7\"\n007,\"\"\nx,b\n+7\n-7,a\n,\nX,\"a\""))
	for _, x := range []struct{ c, all, less int }{{0, 5, 4}, {1, 3, 2}, {2, 1, 1}, {-1, 1, 1}} {
		if got := order.Kinds(g, a, x.c); got != x.all {
			t.Errorf("%d: %d, not %d", x.c, got, x.all)
		}
		if got := order.Kinds(hide(g, 3), a, x.c); got != x.less {
			t.Errorf("%d without the row 3: %d, not %d", x.c, got, x.less)
		}
	}
	if got := order.Kinds(hide(g, 0, 1, 2, 3, 4, 5, 6, 7), a, 0); got != 0 {
		t.Errorf("of hidden rows: %d", got)
	}
}

// P0.5 for a sort: what is alike stays as it came, what is hidden where it is; no cell is written.
func TestP16_4Sorted(t *testing.T) {
	eachGrid(func(g grid.Grid, a *arena.Arena) {
		rows := walk.All(g.Rows)
		for _, l := range keys() {
			once, _ := order.Sort(g, a, l...)
			if !order.Sorted(once, a, l...) {
				t.Fatalf("%q by %v: %q is not sorted", g.Save(a), l, once.Save(a))
			}
			twice, err := order.Sort(once, a, l...)
			if err != api.OK || !grid.Same(a, once, twice) {
				t.Fatalf("%q by %v: %q, then %q", g.Save(a), l, once.Save(a), twice.Save(a))
			}
			seen := walk.All(once.Rows)
			for i, r := range rows {
				if (r.Hidden || seen[i].Hidden) && !sameRow(r, seen[i]) {
					t.Fatalf("%q by %v: row %d", g.Save(a), l, i)
				}
				at := slices.IndexFunc(seen, func(s row.Row) bool { return s.End == r.End })
				if at < 0 || !sameRow(r, seen[at]) {
					t.Fatalf("%q by %v: row %d is not whole", g.Save(a), l, i)
				}
			}
		}
	})
}

func TestP1OwnMemory(t *testing.T) {
	a := texts()
	g := tall(a, 12, 6)
	rows := walk.All(g.Rows)
	by := []order.By{{Col: 1}, {Down: true}}
	want := order.Perm(g, a, by...)
	got := order.Perm(g, a, by...)
	for i := range got {
		got[i] = -1
	}
	if again := order.Perm(g, a, by...); !slices.Equal(again, want) {
		t.Errorf("%v, not %v", again, want)
	}
	places, from := []int{1, 2, 3}, []int{2, 3, 1}
	put, _ := order.Put(g, places, from)
	sorted, _ := order.Sort(g, a, by...)
	wantPut, wantSorted := walk.All(put.Rows), walk.All(sorted.Rows)
	places[0], from[0], by[0] = 9, 9, order.By{Col: -1}
	is(t, "Put", g, put, wantPut)
	is(t, "Sort", g, sorted, wantSorted)
	is(t, "the grid", g, g, rows)
	if by[1] != (order.By{Down: true}) {
		t.Errorf("%v", by)
	}
}

func TestP1GridsByHand(t *testing.T) {
	var odd []cell.Cell
	for _, s := range []arena.Span{{At: -1, N: 9}, {At: math.MaxInt, N: math.MaxInt}, {At: math.MinInt, N: 1}, {At: 3, N: math.MaxInt}} {
		odd = append(odd, cell.Cell{Text: piece.Of(s), Raw: s, Kept: true})
	}
	wide := row.Row{Cells: make([]cell.Cell, api.MaxCols+3), End: -7}
	high := make([]row.Row, api.MaxRows+5)
	for i := range high {
		high[i] = row.Row{Cells: odd[i%4:], Hidden: i%7 == 0}
	}
	for _, rows := range [][]row.Row{nil, {{}}, {{}, row.Fresh(2, 9), wide, {}}, high} {
		for _, a := range []*arena.Arena{nil, texts()} {
			g := grid.Grid{Rows: tree.Of(rows...)}
			for _, l := range slices.Concat(keys(), wrong()) {
				if got, err := order.Sort(g, a, l...); err != api.OK {
					refused(t, "by hand", got, err, api.ErrArg)
				} else if got.Len() != len(rows) {
					t.Errorf("%d rows became %d", len(rows), got.Len())
				}
				order.Perm(g, a, l...)
				order.Sorted(g, a, l...)
			}
			for _, c := range []int{math.MinInt, -1, 0, 1, api.MaxCols + 2, math.MaxInt} {
				order.Kinds(g, a, c)
			}
		}
	}
}

func TestP16Example(t *testing.T) {
	g, a, _ := grid.Load([]byte("10\n9\nx\n007"))
	got, err := order.Sort(g, a, order.By{})
	if s := string(got.Save(a)); err != api.OK || s != "007\n9\n10\nx" {
		t.Errorf("%q %d", s, err)
	}
}
