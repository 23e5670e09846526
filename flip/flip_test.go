package flip_test

import (
	"slices"
	"testing"

	"damier/api"
	"damier/arena"
	"damier/cell"
	"damier/flip"
	"damier/grid"
	"damier/piece"
	"damier/row"
	"damier/scan"
	"damier/tree"
	"damier/walk"
)

// letter tells a kept cell that is named by a number.
func letter(name int) cell.Cell {
	at := arena.Span{At: name, N: 1}
	return cell.Cell{Text: piece.Of(at), Raw: at, Kept: true}
}

// named tells a grid of rows of such lengths no two of whose cells are the same.
// Each third row is hidden, and they have all ends.
func named(lens ...int) grid.Grid {
	var rows []row.Row
	for i, n := range lens {
		r := row.Row{Cells: make([]cell.Cell, 0, n+2), End: (i + 1) % 4, Hidden: i%3 == 1}
		for c := range n {
			r.Cells = append(r.Cells, letter(1000*i+c))
		}
		rows = append(rows, r)
	}
	return grid.Grid{Rows: tree.Of(rows...), Tail: len(lens)%2 == 1, End: scan.CR}
}

// shown tells the rows of a grid without hidden ones.
func shown(g grid.Grid) grid.Grid {
	g.Rows = walk.Map(g.Rows, func(_ int, r row.Row) row.Row { return r.Hide(false) })
	return g
}

// times tells a list of n times the same number.
func times(n, x int) []int {
	return slices.Repeat([]int{x}, n)
}

// eachShape hands over the lengths of the rows of small grids of all shapes, and of some that are about as big as may be.
func eachShape(f func(lens []int)) {
	var grow func(lens []int)
	grow = func(lens []int) {
		f(lens)
		for n := 1; n <= 4 && len(lens) < 4; n++ {
			grow(append(slices.Clone(lens), n))
		}
	}
	grow(nil)
	for _, wide := range []int{1, api.MaxCols - 1, api.MaxCols} {
		for _, high := range []int{1, 2, api.MaxCols - 1, api.MaxCols, api.MaxCols + 1, api.MaxRows} {
			f(times(high, wide))
			f(append(times(high-1, 1), wide))
			f(append([]int{wide}, times(high-1, 2)...))
		}
	}
}

// same tells whether two cells are the same, to the last span.
func same(c, d cell.Cell) bool {
	return c.Kept == d.Kept && c.Raw == d.Raw && slices.Equal(c.Text.Spans(), d.Text.Spans())
}

// sameRow tells whether two rows are the same.
func sameRow(r, s row.Row) bool {
	return r.End == s.End && r.Hidden == s.Hidden && slices.EqualFunc(r.Cells, s.Cells, same)
}

// is says so, if a turn of a grid of such rows did not answer these rows, or if the grid is another one now.
func is(t *testing.T, what string, lens []int, got grid.Grid, want []row.Row, g grid.Grid) {
	t.Helper()
	if rows := walk.All(got.Rows); !slices.EqualFunc(rows, want, sameRow) {
		t.Fatalf("%s of %v: %+v, not %+v", what, lens, rows, want)
	}
	if got.Tail != g.Tail || got.End != g.End {
		t.Fatalf("%s of %v: %v %d, not %v %d", what, lens, got.Tail, got.End, g.Tail, g.End)
	}
	unchanged(t, what, lens, g)
}

// unchanged says so, if a grid is not the one of such rows any more, or if somebody wrote behind a row's cells.
func unchanged(t *testing.T, what string, lens []int, g grid.Grid) {
	t.Helper()
	rows := walk.All(g.Rows)
	if !slices.EqualFunc(rows, walk.All(named(lens...).Rows), sameRow) {
		t.Fatalf("%s of %v: the grid became %+v", what, lens, rows)
	}
	for _, r := range rows {
		if slices.ContainsFunc(r.Cells[r.Len():cap(r.Cells)], func(c cell.Cell) bool { return !c.Empty() }) {
			t.Fatalf("%s of %v: something was written behind a row of %d", what, lens, r.Len())
		}
	}
}

// zero tells whether a grid is the zero one.
func zero(g grid.Grid) bool {
	return g.Rows.Root() == nil && !g.Tail && g.End == 0
}

// over tells the rows behind Over.
func over(lens []int) []row.Row {
	var rows []row.Row
	for c := range slices.Max(lens) {
		r := row.Row{End: scan.None}
		if c < len(lens) {
			r.End = (c + 1) % 4
		}
		for i, n := range lens {
			if c < n {
				r.Cells = append(r.Cells, letter(1000*i+c))
			} else {
				r.Cells = append(r.Cells, cell.Cell{})
			}
		}
		rows = append(rows, r)
	}
	return rows
}

func TestP14_1Over(t *testing.T) {
	eachShape(func(lens []int) {
		g := named(lens...)
		got, err := flip.Over(g)
		want := api.OK
		switch {
		case len(lens) == 0:
			want = api.ErrState
		case len(lens) > api.MaxCols:
			want = api.ErrFull
		}
		if err != want || err != api.OK && !zero(got) {
			t.Fatalf("%v: %d, not %d", lens, err, want)
		}
		if err == api.OK {
			is(t, "Over", lens, got, over(lens), g)
		}
	})
}

func TestP14_1OverOfAFile(t *testing.T) {
	for file, want := range map[string]string{
		"a,b\nc":                     "a,c\nb,",
		"\"a\",b\"x\r\nc\n\"d\"e,,f": "\"a\",c,\"d\"e\r\nb\"x,,\n,,f",
		"a\r\rb":                     "a,,b",
		"a,b,c\r":                    "a\rb\rc\r",
		"\"a":                        "\"a",
	} {
		g, a, _ := grid.Load([]byte(file))
		got, err := flip.Over(g)
		if s := string(got.Save(a)); err != api.OK || s != want {
			t.Errorf("%q: %q %d, not %q", file, s, err, want)
		}
	}
}

// down tells the rows behind Down.
func down(g grid.Grid) []row.Row {
	rows := walk.All(g.Rows)
	slices.Reverse(rows)
	return rows
}

func TestP14_2Down(t *testing.T) {
	eachShape(func(lens []int) {
		g := named(lens...)
		is(t, "Down", lens, flip.Down(g), down(g), g)
	})
}

// side tells the rows behind Side.
func side(g grid.Grid) []row.Row {
	rows := walk.All(g.Rows)
	for i, r := range rows {
		rows[i].Cells = slices.Clone(r.Cells)
		slices.Reverse(rows[i].Cells)
	}
	return rows
}

func TestP14_2Side(t *testing.T) {
	eachShape(func(lens []int) {
		g := named(lens...)
		is(t, "Side", lens, flip.Side(g), side(g), g)
	})
}

func TestP14_2OfAFile(t *testing.T) {
	g, a, _ := grid.Load([]byte("\"a\",b\nc\r\n\"d\"e,,f"))
	if s := string(flip.Down(g).Save(a)); s != "\"d\"e,,f\nc\r\n\"a\",b" {
		t.Errorf("Down: %q", s)
	}
	if s := string(flip.Side(g).Save(a)); s != "b,\"a\"\nc\r\nf,,\"d\"e" {
		t.Errorf("Side: %q", s)
	}
}

func TestP14_3Stack(t *testing.T) {
	sizes := [][]int{nil, {2}, {3, 1}, {1, 2, 3, 4, 1, 2, 3}, times(50, 2), times(api.MaxRows-2, 1), times(api.MaxRows-1, 1), times(api.MaxRows, 1)}
	for _, m := range sizes {
		for _, n := range sizes {
			g, h := named(m...), named(n...)
			h.End = scan.LF
			got, err := flip.Stack(g, h)
			if len(m)+len(n) > api.MaxRows {
				if err != api.ErrFull || !zero(got) {
					t.Fatalf("%d and %d rows: %d", len(m), len(n), err)
				}
				continue
			}
			if err != api.OK {
				t.Fatalf("%d and %d rows: %d", len(m), len(n), err)
			}
			is(t, "Stack", m, got, slices.Concat(walk.All(g.Rows), walk.All(h.Rows)), g)
			unchanged(t, "Stack", n, h)
		}
	}
}

func TestP14_3StackOfFiles(t *testing.T) {
	g, a, _ := grid.Load([]byte("\"a\",b\nc"))
	h, _ := g.Delete(0)
	h.Tail = true
	got, err := flip.Stack(g, h)
	if s := string(got.Save(a)); err != api.OK || s != "\"a\",b\nc\nc" {
		t.Errorf("%q %d", s, err)
	}
	got, err = flip.Stack(h, g)
	if s := string(got.Save(a)); err != api.OK || s != "c\n\"a\",b\nc\n" {
		t.Errorf("%q %d", s, err)
	}
}

func TestP14_4OverTwice(t *testing.T) {
	for high := 1; high <= api.MaxCols; high++ {
		for _, wide := range []int{1, 2, 3, api.MaxCols} {
			g := shown(named(times(high, wide)...))
			once, _ := flip.Over(g)
			twice, err := flip.Over(once)
			all := slices.EqualFunc(walk.All(twice.Rows), walk.All(g.Rows), func(r, s row.Row) bool {
				return slices.EqualFunc(r.Cells, s.Cells, same)
			})
			if err != api.OK || !all {
				t.Fatalf("%d rows of %d: %+v %d", high, wide, walk.All(twice.Rows), err)
			}
		}
	}
}

func TestP14_4DownAndSideTwice(t *testing.T) {
	eachShape(func(lens []int) {
		g := named(lens...)
		is(t, "Down twice", lens, flip.Down(flip.Down(g)), walk.All(g.Rows), g)
		is(t, "Side twice", lens, flip.Side(flip.Side(g)), walk.All(g.Rows), g)
	})
}

func TestP1OwnMemory(t *testing.T) {
	for what, turn := range map[string]func(g grid.Grid) grid.Grid{
		"Over": func(g grid.Grid) grid.Grid { got, _ := flip.Over(g); return got },
		"Side": flip.Side,
	} {
		lens := []int{1, 2, 3}
		g := named(lens...)
		for _, r := range walk.All(turn(g).Rows) {
			for i := range r.Cells {
				r.Cells[i] = letter(9)
			}
		}
		unchanged(t, what, lens, g)
	}
}

func TestP1GridsByHand(t *testing.T) {
	wide := row.Row{Cells: make([]cell.Cell, api.MaxRows+3), End: -7}
	odd := row.Row{Cells: []cell.Cell{{Text: piece.Of(arena.Span{At: -1, N: 9})}}}
	for _, rows := range [][]row.Row{{}, {{}}, {{}, row.Fresh(2, 9)}, {wide, odd}, make([]row.Row, api.MaxRows+2)} {
		g := grid.Grid{Rows: tree.Of(rows...)}
		if got, err := flip.Over(g); err != api.OK && !zero(got) {
			t.Errorf("Over of %d rows: %d, and a grid", len(rows), err)
		}
		if got, err := flip.Stack(g, g); err != api.OK && !zero(got) {
			t.Errorf("Stack of %d rows: %d, and a grid", len(rows), err)
		}
		if flip.Down(g).Len() != len(rows) || flip.Side(g).Len() != len(rows) {
			t.Errorf("of %d rows", len(rows))
		}
	}
}

func TestP14Example(t *testing.T) {
	g, a, _ := grid.Load([]byte("a,b\nc"))
	got, err := flip.Over(g)
	if s := string(got.Save(a)); err != api.OK || s != "a,c\nb," {
		t.Errorf("%q %d", s, err)
	}
	if c, ok := got.At(1, 1); !ok || c.Kept || !c.Empty() {
		t.Errorf("%+v", c)
	}
}
