package cols_test

import (
	"math"
	"slices"
	"testing"

	"damier/api"
	"damier/arena"
	"damier/cell"
	"damier/cols"
	"damier/grid"
	"damier/piece"
	"damier/row"
	"damier/scan"
	"damier/tree"
	"damier/walk"
)

// eachShape hands over all lists of up to so many rows' lengths, from 1 to wide.
func eachShape(most, wide int, f func(lens []int)) {
	var grow func(lens []int)
	grow = func(lens []int) {
		f(lens)
		for n := 1; n <= wide && len(lens) < most; n++ {
			grow(append(slices.Clone(lens), n))
		}
	}
	grow(nil)
}

// letter tells a written cell of an arena's byte at a place.
func letter(at int) cell.Cell {
	return cell.Of(piece.Of(arena.Span{At: at, N: 1}))
}

// named tells a grid of rows of such lengths, and the names of its cells; no two are the same.
// Each second row is hidden, and they have all ends.
func named(lens ...int) (grid.Grid, [][]int) {
	var rows []row.Row
	var names [][]int
	for i, n := range lens {
		r := row.Row{Cells: make([]cell.Cell, 0, n+2), End: i % 4, Hidden: i%2 == 1}
		l := []int{}
		for c := range n {
			r.Cells = append(r.Cells, letter(100*i+c))
			l = append(l, 100*i+c)
		}
		rows, names = append(rows, r), append(names, l)
	}
	return grid.Grid{Rows: tree.Of(rows...), Tail: len(lens)%2 == 1, End: scan.CR}, names
}

// empty names an empty cell.
const empty = -1

// names tells the names of a grid's cells; nothing of a row whose End or Hidden are not as they were.
func names(g grid.Grid) [][]int {
	var all [][]int
	for i, r := range walk.All(g.Rows) {
		l := []int{}
		for _, c := range r.Cells {
			l = append(l, name(c))
		}
		if r.End != i%4 || r.Hidden != (i%2 == 1) {
			l = nil
		}
		all = append(all, l)
	}
	return all
}

// name tells the name of a cell; below that of an empty one, if it is neither empty nor a letter.
func name(c cell.Cell) int {
	switch s := c.Text.Spans(); {
	case c.Kept || c.Raw != arena.Span{} || len(s) > 1:
		return empty - 1
	case len(s) == 0:
		return empty
	default:
		return s[0].At
	}
}

// alike tells whether the names of two grids are the same.
func alike(x, y [][]int) bool {
	return slices.EqualFunc(x, y, func(a, b []int) bool { return a != nil && slices.Equal(a, b) })
}

// is says so, if a change of a grid of such rows did not answer these cells, or this error, or if the grid is another one now.
func is(t *testing.T, what string, lens []int, g, got grid.Grid, err api.Errno, want [][]int, wantErr api.Errno) {
	t.Helper()
	right := got.Tail == g.Tail && got.End == g.End && alike(names(got), want)
	if wantErr != api.OK {
		right = got.Rows.Root() == nil && !got.Tail && got.End == 0
	}
	if err != wantErr || !right {
		t.Fatalf("%s of %v: %v %d, not %v %d", what, lens, names(got), err, want, wantErr)
	}
	unchanged(t, what, lens, g)
}

// unchanged says so, if a grid is not the one of such rows any more, or if somebody wrote behind a row's cells.
func unchanged(t *testing.T, what string, lens []int, g grid.Grid) {
	t.Helper()
	_, old := named(lens...)
	if !alike(names(g), old) {
		t.Fatalf("%s: rows of %v became %v", what, lens, names(g))
	}
	for _, r := range walk.All(g.Rows) {
		if slices.ContainsFunc(r.Cells[r.Len():cap(r.Cells)], func(c cell.Cell) bool { return !c.Empty() }) {
			t.Fatalf("%s: something was written behind a row of %d", what, r.Len())
		}
	}
}

// width tells how many cells the longest row has.
func width(l [][]int) int {
	wide := 0
	for _, r := range l {
		wide = max(wide, len(r))
	}
	return wide
}

// padded tells a row with empty cells behind, up to n.
func padded(l []int, n int) []int {
	for len(l) < n {
		l = append(l, empty)
	}
	return l
}

// columns are numbers of columns around all that is asked of a grid of a few.
func columns() []int {
	return []int{math.MinInt, -2, -1, 0, 1, 2, 3, 4, 5, api.MaxCols - 1, api.MaxCols, api.MaxCols + 1, math.MaxInt}
}

// shapes hands over small grids of all shapes, and some that are about as wide as may be.
func shapes(f func(lens []int)) {
	eachShape(4, 4, f)
	for _, wide := range []int{api.MaxCols - 1, api.MaxCols} {
		for _, lens := range [][]int{{wide}, {wide, 1}, {2, wide}, {3, wide, wide}} {
			f(lens)
		}
	}
	long := make([]int, 50)
	for i := range long {
		long[i] = i%5 + 1
	}
	f(long)
}

// inserted tells what there is behind an Insert.
func inserted(l [][]int, c int) ([][]int, api.Errno) {
	switch {
	case len(l) == 0:
		return nil, api.ErrState
	case c < 0 || c > width(l):
		return nil, api.ErrRange
	case width(l) == api.MaxCols:
		return nil, api.ErrFull
	}
	for i, r := range l {
		if len(r) >= c {
			l[i] = slices.Insert(r, c, empty)
		}
	}
	return l, api.OK
}

// deleted tells what there is behind a Delete.
func deleted(l [][]int, c int) ([][]int, api.Errno) {
	switch {
	case len(l) == 0:
		return nil, api.ErrState
	case c < 0 || c >= width(l):
		return nil, api.ErrRange
	case width(l) == 1:
		return nil, api.ErrState
	}
	for i, r := range l {
		switch {
		case len(r) == 1 && c == 0:
			l[i] = []int{empty}
		case len(r) > c:
			l[i] = slices.Delete(r, c, c+1)
		}
	}
	return l, api.OK
}

// moved tells what there is behind a Move.
func moved(l [][]int, c, d int) ([][]int, api.Errno) {
	if wide := width(l); c < 0 || c >= wide || d < 0 || d >= wide {
		return nil, api.ErrRange
	}
	for i, r := range l {
		if c == d || len(r) <= min(c, d) {
			continue
		}
		r = padded(r, max(c, d)+1)
		x := r[c]
		l[i] = slices.Insert(slices.Delete(r, c, c+1), d, x)
	}
	return l, api.OK
}

func TestP12_1Insert(t *testing.T) {
	shapes(func(lens []int) {
		for _, c := range columns() {
			g, l := named(lens...)
			want, wantErr := inserted(l, c)
			got, err := cols.Insert(g, c)
			is(t, "Insert", lens, g, got, err, want, wantErr)
		}
	})
}

func TestP12_1InsertOfKeptCells(t *testing.T) {
	g, a, _ := grid.Load([]byte("\"a\",b\r\n\"c\"\n\"d\"e,f,\"\""))
	for c, want := range []string{",\"a\",b\r\n,\"c\"\n,\"d\"e,f,\"\"", "\"a\",,b\r\n\"c\",\n\"d\"e,,f,\"\"", "\"a\",b,\r\n\"c\"\n\"d\"e,f,,\"\"", "\"a\",b\r\n\"c\"\n\"d\"e,f,\"\","} {
		more, err := cols.Insert(g, c)
		if got := string(more.Save(a)); err != api.OK || got != want {
			t.Errorf("%d: %q %d, not %q", c, got, err, want)
		}
	}
}

func TestP12_2Delete(t *testing.T) {
	shapes(func(lens []int) {
		for _, c := range columns() {
			g, l := named(lens...)
			want, wantErr := deleted(l, c)
			got, err := cols.Delete(g, c)
			is(t, "Delete", lens, g, got, err, want, wantErr)
		}
	})
}

func TestP12_2DeleteOfAnOnlyCell(t *testing.T) {
	g, a, _ := grid.Load([]byte("\"\"\n\"a\",b\n\"c\"\n"))
	got, err := cols.Delete(g, 0)
	if err != api.OK || string(got.Save(a)) != "\nb\n\n" {
		t.Errorf("%q %d", got.Save(a), err)
	}
	for _, i := range []int{0, 2} {
		if c, ok := got.At(i, 0); !ok || c.Kept || !c.Empty() || c.Raw != (arena.Span{}) {
			t.Errorf("the cell of row %d: %+v", i, c)
		}
	}
	g, _, _ = grid.Load([]byte("a\nb"))
	for _, c := range []int{-1, 1, math.MaxInt} {
		if _, err := cols.Delete(g, c); err != api.ErrRange {
			t.Errorf("%d of one: %d", c, err)
		}
	}
	if _, err := cols.Delete(g, 0); err != api.ErrState {
		t.Errorf("the only one: %d", err)
	}
}

func TestP12_3Move(t *testing.T) {
	shapes(func(lens []int) {
		for _, c := range columns() {
			for _, d := range columns() {
				g, l := named(lens...)
				want, wantErr := moved(l, c, d)
				got, err := cols.Move(g, c, d)
				is(t, "Move", lens, g, got, err, want, wantErr)
				if err == api.OK && c == d && got.Rows.Root() != g.Rows.Root() {
					t.Fatalf("from %d to %d: not the grid itself", c, d)
				}
			}
		}
	})
}

func TestP12_4Pad(t *testing.T) {
	shapes(func(lens []int) {
		g, l := named(lens...)
		for i, r := range l {
			l[i] = padded(r, width(l))
		}
		is(t, "Pad", lens, g, cols.Pad(g), api.OK, l, api.OK)
	})
}

func TestP12_4Even(t *testing.T) {
	shapes(func(lens []int) {
		g, _ := named(lens...)
		want := len(lens) == 0 || slices.Min(lens) == slices.Max(lens)
		if cols.Even(g) != want || !cols.Even(cols.Pad(g)) {
			t.Fatalf("%v: not %v", lens, want)
		}
	})
}

func TestP12_4Cells(t *testing.T) {
	shapes(func(lens []int) {
		g, l := named(lens...)
		for _, c := range columns() {
			cells, there := cols.Cells(g, c)
			if len(cells) != len(lens) || len(there) != len(lens) {
				t.Fatalf("%d of %v: %d cells, %d", c, lens, len(cells), len(there))
			}
			for i, r := range l {
				want := empty
				if has := 0 <= c && c < len(r); has {
					want = r[c]
				}
				if name(cells[i]) != want || there[i] != (want != empty) {
					t.Fatalf("%d of %v: %+v %v in row %d", c, lens, cells[i], there[i], i)
				}
			}
		}
	})
	g, a, _ := grid.Load([]byte("\"a\",\nb"))
	cells, there := cols.Cells(g, 1)
	if !cells[0].Kept || !cells[0].Empty() || !there[0] || cells[1].Kept || there[1] {
		t.Errorf("%+v %v", cells, there)
	}
	if cells, _ = cols.Cells(g, 0); string(cells[0].Print(a)) != `"a"` {
		t.Errorf("%+v", cells)
	}
}

func TestP12_5InsertAndDelete(t *testing.T) {
	shapes(func(lens []int) {
		g, l := named(lens...)
		for c := range width(l) + 1 {
			more, err := cols.Insert(g, c)
			if err != api.OK && len(lens) > 0 && width(l) < api.MaxCols {
				t.Fatalf("column %d of %v: %d", c, lens, err)
			}
			if err == api.OK {
				less, err := cols.Delete(more, c)
				is(t, "Insert and Delete", lens, g, less, err, l, api.OK)
			}
		}
	})
}

func TestP12_5MoveThereAndBack(t *testing.T) {
	shapes(func(lens []int) {
		g, l := named(lens...)
		for c := range width(l) {
			for d := range width(l) {
				there, _ := cols.Move(g, c, d)
				back, err := cols.Move(there, d, c)
				if err != api.OK || cols.Even(g) && !alike(names(back), l) {
					t.Fatalf("%d and %d of %v: %v %d", c, d, lens, names(back), err)
				}
				for i, r := range names(back) {
					if r == nil || !slices.Equal(r[:len(l[i])], l[i]) || slices.ContainsFunc(r[len(l[i]):], func(x int) bool { return x != empty }) {
						t.Fatalf("%d and %d of %v: %v", c, d, lens, names(back))
					}
				}
			}
		}
	})
}

func TestP1OwnMemory(t *testing.T) {
	for what, change := range map[string]func(g grid.Grid) (grid.Grid, api.Errno){
		"Insert": func(g grid.Grid) (grid.Grid, api.Errno) { return cols.Insert(g, 1) },
		"Delete": func(g grid.Grid) (grid.Grid, api.Errno) { return cols.Delete(g, 0) },
		"Move":   func(g grid.Grid) (grid.Grid, api.Errno) { return cols.Move(g, 0, 1) },
	} {
		lens := []int{1, 2, 3}
		g, _ := named(lens...)
		got, _ := change(g)
		for _, r := range walk.All(got.Rows) {
			for i := range r.Cells {
				r.Cells[i] = letter(7000)
			}
		}
		unchanged(t, what, lens, g)
	}
	g, _ := named(2, 3)
	cells, there := cols.Cells(g, 0)
	cells[0], there[0] = letter(7000), false
	again, still := cols.Cells(g, 0)
	if name(again[0]) != 0 || !still[0] {
		t.Error("Cells")
	}
	unchanged(t, "Cells", []int{2, 3}, g)
}

func TestP1GridsByHand(t *testing.T) {
	wide := row.Row{Cells: make([]cell.Cell, api.MaxCols+3)}
	for _, rows := range [][]row.Row{{}, {{}}, {{}, row.Fresh(2, 9)}, {wide, row.Fresh(1, 0)}} {
		g := grid.Grid{Rows: tree.Of(rows...)}
		for _, c := range columns() {
			cols.Insert(g, c)
			cols.Delete(g, c)
			cols.Cells(g, c)
			for _, d := range columns() {
				if got, err := cols.Move(g, c, d); err != api.OK && got.Rows.Root() != nil {
					t.Errorf("%d %d: %d, and a grid", c, d, err)
				}
			}
		}
		cols.Pad(g)
		cols.Even(g)
	}
}

func TestP12Example(t *testing.T) {
	g, a, _ := grid.Load([]byte("a,b\nc"))
	g, err := cols.Insert(g, 2)
	if got := string(g.Save(a)); err != api.OK || got != "a,b,\nc" {
		t.Errorf("%q %d", got, err)
	}
}
