package grid_test

import (
	"bytes"
	"math"
	"slices"
	"strings"
	"testing"

	"damier/api"
	"damier/arena"
	"damier/cell"
	"damier/grid"
	"damier/piece"
	"damier/quote"
	"damier/row"
	"damier/scan"
	"damier/tree"
	"damier/walk"
)

// eachText hands over every text of the bytes of some, up to a length.
func eachText(some string, most int, f func(b []byte)) {
	var grow func(b []byte)
	grow = func(b []byte) {
		f(b)
		for i := 0; i < len(some) && len(b) < most; i++ {
			grow(append(bytes.Clone(b), some[i]))
		}
	}
	grow(nil)
}

// load tells the grid of a file that can be loaded.
func load(t *testing.T, file string) (grid.Grid, *arena.Arena) {
	t.Helper()
	g, a, err := grid.Load([]byte(file))
	if err != api.OK {
		t.Fatalf("%q: %d", file, err)
	}
	return g, a
}

// letter tells a written cell of an arena's byte at a place.
func letter(at int) cell.Cell {
	return cell.Of(piece.Of(arena.Span{At: at, N: 1}))
}

// named tells a row whose first cell names it; each third one is hidden, and they have all ends.
func named(i int) row.Row {
	return row.Row{Cells: []cell.Cell{letter(i), letter(7)}, End: i % 4, Hidden: i%3 == 2}
}

// numbered tells a grid of n rows with names.
func numbered(n int) grid.Grid {
	var rows []row.Row
	for i := range n {
		rows = append(rows, named(i))
	}
	return grid.Grid{Rows: tree.Of(rows...), Tail: n%2 == 1, End: scan.CR}
}

// names tells the names of a grid's rows; below 0, if a row is not as it was made.
func names(g grid.Grid) []int {
	var l []int
	for _, r := range walk.All(g.Rows) {
		i := r.Cells[0].Text.Spans()[0].At
		if w := named(i); r.End != w.End || r.Hidden != w.Hidden || r.Len() != w.Len() {
			i = -1
		}
		l = append(l, i)
	}
	return l
}

// upTo tells the numbers ahead of n.
func upTo(n int) []int {
	var l []int
	for i := range n {
		l = append(l, i)
	}
	return l
}

// sizes are how many rows the grids have on which all is tried.
func sizes() []int {
	return []int{0, 1, 2, 3, 7, 20, api.MaxRows - 1, api.MaxRows, api.MaxRows + 1}
}

// places are numbers of rows around all that is asked of a grid of n rows.
func places(n int) []int {
	return []int{math.MinInt, -2, -1, 0, 1, 2, n / 2, n - 2, n - 1, n, n + 1, api.MaxRows - 1, api.MaxRows, api.MaxRows + 1, math.MaxInt}
}

// zero tells whether a grid is the zero one.
func zero(g grid.Grid) bool {
	return g.Len() == 0 && g.Rows.Root() == nil && !g.Tail && g.End == 0
}

// is says so, if a change of a grid of n rows did not answer these rows, or this error.
func is(t *testing.T, what string, n int, got grid.Grid, err api.Errno, want []int, wantErr api.Errno) {
	t.Helper()
	right := got.Tail == (n%2 == 1) && got.End == scan.CR && slices.Equal(names(got), want)
	if wantErr != api.OK {
		right = zero(got)
	}
	if err != wantErr || !right {
		t.Fatalf("%s of %d rows: %v %d, not %v %d", what, n, names(got), err, want, wantErr)
	}
}

// rowsAre tells whether a grid has the rows of a file, as they are loaded one by one.
func rowsAre(a *arena.Arena, g grid.Grid, rows []scan.Row) bool {
	if g.Len() != len(rows) {
		return false
	}
	for i, r := range rows {
		want, _ := row.Load(r)
		if got, ok := g.Row(i); !ok || !row.Same(a, got, want) {
			return false
		}
	}
	return true
}

func TestP11_1Load(t *testing.T) {
	eachText("\",\r\na", 6, func(file []byte) {
		g, a := load(t, string(file))
		rows := scan.All(file)
		end := scan.Both
		if i := slices.IndexFunc(rows, func(r scan.Row) bool { return r.End != scan.None }); i >= 0 {
			end = rows[i].End
		}
		tail := len(rows) > 0 && rows[len(rows)-1].End != scan.None
		if !rowsAre(a, g, rows) || g.End != end || g.Tail != tail {
			t.Fatalf("%q: %d rows, %v %d, not %d, %v %d", file, g.Len(), g.Tail, g.End, len(rows), tail, end)
		}
		if !bytes.Equal(a.Bytes(arena.Span{N: a.Len()}), file) {
			t.Fatalf("%q: the arena has other bytes", file)
		}
	})
	g, a := load(t, "")
	if g.Len() != 0 || g.Tail || g.End != scan.Both || a == nil || a.Len() != 0 {
		t.Errorf("of no bytes: %+v", g)
	}
	if g, _ := load(t, "\xff\x00,\xc3\r\x80"); g.Len() != 2 || g.End != scan.CR || g.Tail {
		t.Errorf("of any bytes: %+v", g)
	}
}

func TestP11_1LoadErrors(t *testing.T) {
	long := strings.Repeat("x", api.MaxCell)
	wide := strings.Repeat(",", api.MaxCols-1)
	rows := strings.Repeat("\n", api.MaxRows)
	for _, c := range []struct {
		file string
		err  api.Errno
	}{
		{strings.Repeat("x\r\n", 3), api.OK}, {rows, api.OK}, {rows + "x", api.ErrFull}, {rows + "\n", api.ErrFull}, {rows[1:] + "x", api.OK},
		{"a\n" + wide, api.OK}, {"a\n" + wide + ",", api.ErrFull}, {"a\n" + long, api.OK}, {"a\n" + long + "x", api.ErrLong}, {`"` + strings.Repeat(`""`, api.MaxCell) + `"`, api.OK}, {`"` + strings.Repeat(`""`, api.MaxCell) + `"x`, api.ErrLong},
		// The first row whose error it is comes first; within one row, and ahead of all rows, there is an order, too.
		{long + "x\n" + wide + ",", api.ErrLong}, {wide + ",\n" + long + "x", api.ErrFull}, {long + "x" + wide + ",", api.ErrFull}, {long + "x\n" + rows, api.ErrFull}, {rows + long + "x", api.ErrFull},
		{strings.Repeat("x\n", api.MaxBytes/400) + strings.Repeat("abcdefg\n", 250), api.OK}, {strings.Repeat(long[1:]+"\n", 10) + strings.Repeat("x", 96), api.OK}, {strings.Repeat(long[1:]+"\n", 10) + strings.Repeat("x", 97), api.ErrBig},
		{strings.Repeat("\n", api.MaxBytes), api.ErrFull}, {strings.Repeat("\n", api.MaxBytes+1), api.ErrBig}, {strings.Repeat(",", api.MaxBytes+1), api.ErrBig}, {strings.Repeat("x", api.MaxBytes+1), api.ErrBig},
	} {
		g, a, err := grid.Load([]byte(c.file))
		if err != c.err || a == nil {
			t.Errorf("%d bytes, %.10q: %d, not %d", len(c.file), c.file, err, c.err)
		}
		if err != api.OK && (g.Rows.Root() != nil || g.Tail || g.End != scan.Both || a.Len() != 0 || a.Room() != api.MaxArena) {
			t.Errorf("%.10q: %+v beside an error", c.file, g)
		}
	}
}

func TestP11_2Save(t *testing.T) {
	a, _ := arena.New([]byte("ab"))
	ends := []int{scan.None, scan.LF, scan.Both, scan.CR, -1, 4}
	marks := []string{"", "\n", "\r\n", "\r", "", ""}
	lines := [][]cell.Cell{{{}}, {letter(0)}, {letter(1), {}}}
	texts := []string{"", "a", "b,"}
	for k := range len(ends) * len(ends) * len(ends) * len(lines) * len(lines) * 4 {
		take := func(n int) int {
			i := k % n
			k /= n
			return i
		}
		first, second, rest, tail, hidden := take(len(ends)), take(len(ends)), take(len(ends)), take(2) == 0, take(2) == 0
		one, two := take(len(lines)), take(len(lines))
		mark := func(end int) string {
			if ends[end] == scan.None {
				return marks[rest]
			}
			return marks[end]
		}
		want := texts[one] + mark(first) + texts[two]
		if tail || texts[two] == "" {
			want += mark(second)
		}
		g := grid.Grid{Rows: tree.Of(row.Row{Cells: lines[one], End: ends[first], Hidden: hidden}, row.Row{Cells: lines[two], End: ends[second], Hidden: !hidden}), Tail: tail, End: ends[rest]}
		if got := g.Save(a); string(got) != want {
			t.Fatalf("ends %d and %d, else %d, Tail %v: %q, not %q", ends[first], ends[second], ends[rest], tail, got, want)
		}
	}
	for _, tail := range []bool{false, true} {
		if got := (grid.Grid{Tail: tail, End: scan.LF}).Save(a); len(got) != 0 {
			t.Errorf("no rows: %q", got)
		}
	}
}

func TestP11_2SaveOfWrittenCells(t *testing.T) {
	g, a := load(t, "\"a\",b\r\n\"c\"d\nx")
	comma, _ := cell.Put(a, []byte("1,2"))
	g, _ = g.Set(0, 1, comma)
	g, _ = g.Insert(3, row.Fresh(2, scan.None))
	if got := g.Save(a); string(got) != "\"a\",\"1,2\"\r\n\"c\"d\nx\r\n," {
		t.Errorf("%q", got)
	}
	g, _ = g.Put(3, row.Fresh(1, scan.LF))
	if got := g.Save(a); string(got) != "\"a\",\"1,2\"\r\n\"c\"d\nx\r\n\n" {
		t.Errorf("%q", got)
	}
}

func TestP11_3LenWidth(t *testing.T) {
	for _, n := range sizes() {
		if got := numbered(n).Len(); got != n {
			t.Errorf("%d rows: %d", n, got)
		}
	}
	for file, want := range map[string]int{"": 0, "\n": 1, "a": 1, "a,b": 2, "a\nb,c,d\ne,f": 3, ",,,\n\n": 4, "a\n,": 2} {
		if g, _ := load(t, file); g.Width() != want {
			t.Errorf("%q: %d", file, g.Width())
		}
	}
	g, _ := load(t, "a\nb,c,d\n")
	r, _ := g.Row(1)
	if g, _ = g.Put(1, r.Hide(true)); g.Width() != 3 {
		t.Error("a hidden row")
	}
	for wide := 1; wide <= api.MaxCols; wide++ {
		for at := range 9 {
			g, _ := numbered(9).Put(at, row.Fresh(wide, 0))
			if g.Width() != max(wide, 2) {
				t.Errorf("%d cells in row %d: %d", wide, at, g.Width())
			}
		}
	}
}

func TestP11_3RowAt(t *testing.T) {
	for _, n := range sizes() {
		g := numbered(n)
		for _, i := range places(n) {
			r, ok := g.Row(i)
			there := 0 <= i && i < n
			if ok != there || there && !row.Same(nil, r, named(i)) || !there && (r.Cells != nil || r.End != 0 || r.Hidden) {
				t.Fatalf("%d of %d: %+v %v", i, n, r, ok)
			}
			for _, c := range []int{math.MinInt, -1, 0, 1, 2, math.MaxInt} {
				x, ok := g.At(i, c)
				var want cell.Cell
				if there && 0 <= c && c < 2 {
					want = r.Cells[c]
				}
				if ok != (there && 0 <= c && c < 2) || x.Kept || !piece.Same(x.Text, want.Text) {
					t.Fatalf("%d %d of %d: %+v %v", i, c, n, x, ok)
				}
			}
		}
	}
	g, a := load(t, "a,\"b\"\nc")
	if c, ok := g.At(0, 1); !ok || !c.Kept || string(c.Print(a)) != `"b"` {
		t.Errorf("%+v", c)
	}
}

func TestP11_3Visible(t *testing.T) {
	for _, n := range sizes() {
		var want []int
		for i := range n {
			if i%3 != 2 {
				want = append(want, i)
			}
		}
		if got := numbered(n).Visible(); !slices.Equal(got, want) {
			t.Errorf("%d rows: %v", n, got)
		}
	}
	hidden := grid.Grid{Rows: tree.Of(row.Fresh(1, 0).Hide(true), row.Fresh(1, 0).Hide(true))}
	if got := hidden.Visible(); len(got) != 0 {
		t.Errorf("%v", got)
	}
}

func TestP11_3Same(t *testing.T) {
	a, _ := arena.New([]byte("a,b,\"a\""))
	one := row.Row{Cells: []cell.Cell{letter(0)}, End: scan.LF}
	two := row.Row{Cells: []cell.Cell{letter(2)}, End: scan.LF}
	again := row.Row{Cells: []cell.Cell{letter(5)}, End: scan.LF}
	all := [][]row.Row{{}, {one}, {one.Hide(true)}, {one.Pad(2)}, {two}, {one, two}, {two, one}, {one, two, one}, {one, one, one}, {row.Row{Cells: one.Cells}}}
	for i, x := range all {
		for j, y := range all {
			g, h := grid.Grid{Rows: tree.Of(x...), End: scan.LF}, grid.Grid{Rows: tree.Of(y...), End: scan.LF}
			if grid.Same(a, g, h) != (i == j) {
				t.Errorf("%d and %d", i, j)
			}
			other := h
			other.Tail = true
			if grid.Same(a, g, other) || grid.Same(a, other, g) {
				t.Errorf("%d and %d: Tail", i, j)
			}
			other = h
			other.End = scan.Both
			if grid.Same(a, g, other) || grid.Same(a, other, g) {
				t.Errorf("%d and %d: End", i, j)
			}
		}
	}
	g, h := grid.Grid{Rows: tree.Of(one)}, grid.Grid{Rows: tree.Of(again)}
	if !grid.Same(a, g, h) {
		t.Error("the same byte elsewhere")
	}
}

// TestP11_3SameOfAnyShape: trees of the same rows that came to be otherwise are the same.
func TestP11_3SameOfAnyShape(t *testing.T) {
	a, _ := arena.New(bytes.Repeat([]byte("ab"), 20))
	grown := numbered(0)
	for i := range 30 {
		grown, _ = grown.Insert(i/2, named(i))
	}
	whole := grid.Grid{Rows: tree.Of(walk.All(grown.Rows)...), End: scan.CR}
	if !grid.Same(a, grown, whole) || !grid.Same(a, whole, grown) {
		t.Error("not the same")
	}
	for i := range 30 {
		r, _ := whole.Row(i)
		other, _ := whole.Put(i, r.Hide(!r.Hidden))
		if grid.Same(a, grown, other) || grid.Same(a, other, grown) {
			t.Errorf("row %d is another one", i)
		}
	}
}

func TestP11_4Set(t *testing.T) {
	for _, n := range sizes() {
		for _, i := range places(n) {
			for _, c := range []int{math.MinInt, -1, 1, 3, api.MaxCols - 1, api.MaxCols, math.MaxInt} {
				g := numbered(n)
				got, err := g.Set(i, c, letter(77))
				wantErr := api.ErrRange
				if 0 <= i && i < n && 0 <= c && c < api.MaxCols {
					wantErr = api.OK
					want, _ := named(i).Set(c, letter(77))
					if r, _ := got.Row(i); !slices.EqualFunc(r.Cells, want.Cells, sameText) || r.End != want.End || r.Hidden != want.Hidden {
						t.Fatalf("Set(%d, %d) of %d rows: %+v", i, c, n, r)
					}
					got, _ = got.Put(i, named(i))
				}
				is(t, "Set", n, got, err, upTo(n), wantErr)
				is(t, "ahead of Set", n, g, api.OK, upTo(n), api.OK)
			}
		}
	}
}

func sameText(c, d cell.Cell) bool {
	return piece.Same(c.Text, d.Text) && c.Kept == d.Kept && c.Raw == d.Raw
}

// change tries a change of a number and a row on all grids, at all places; want tells the rows behind it, or an error.
func change(t *testing.T, what string, do func(g grid.Grid, i int, x row.Row) (grid.Grid, api.Errno), want func(l []int, i int) ([]int, api.Errno)) {
	t.Helper()
	for _, n := range sizes() {
		for _, i := range places(n) {
			g := numbered(n)
			got, err := do(g, i, named(1000))
			rows, wantErr := want(upTo(n), i)
			is(t, what, n, got, err, rows, wantErr)
			is(t, "ahead of "+what, n, g, api.OK, upTo(n), api.OK)
		}
	}
}

func TestP11_4Put(t *testing.T) {
	change(t, "Put", grid.Grid.Put, func(l []int, i int) ([]int, api.Errno) {
		if i < 0 || i >= len(l) {
			return nil, api.ErrRange
		}
		l[i] = 1000
		return l, api.OK
	})
}

func TestP11_4Insert(t *testing.T) {
	change(t, "Insert", grid.Grid.Insert, func(l []int, i int) ([]int, api.Errno) {
		switch {
		case i < 0 || i > len(l):
			return nil, api.ErrRange
		case len(l) >= api.MaxRows:
			return nil, api.ErrFull
		}
		return slices.Insert(l, i, 1000), api.OK
	})
}

func TestP11_4Delete(t *testing.T) {
	do := func(g grid.Grid, i int, _ row.Row) (grid.Grid, api.Errno) { return g.Delete(i) }
	change(t, "Delete", do, func(l []int, i int) ([]int, api.Errno) {
		if i < 0 || i >= len(l) {
			return nil, api.ErrRange
		}
		return slices.Delete(l, i, i+1), api.OK
	})
}

func TestP11_4Move(t *testing.T) {
	for _, j := range []int{math.MinInt, -1, 0, 1, 2, 6, 19, 20, api.MaxRows - 2, api.MaxRows - 1, api.MaxRows, math.MaxInt} {
		do := func(g grid.Grid, i int, _ row.Row) (grid.Grid, api.Errno) { return g.Move(i, j) }
		change(t, "Move", do, func(l []int, i int) ([]int, api.Errno) {
			if i < 0 || i >= len(l) || j < 0 || j >= len(l) {
				return nil, api.ErrRange
			}
			return slices.Insert(slices.Delete(l, i, i+1), j, i), api.OK
		})
	}
	for i := range 9 {
		for j := range 9 {
			got, err := numbered(9).Move(i, j)
			is(t, "Move", 9, got, err, slices.Insert(slices.Delete(upTo(9), i, i+1), j, i), api.OK)
		}
	}
}

func TestP11_5LoadedIsSavedAsItWas(t *testing.T) {
	holds := func(file []byte) {
		if g, a := load(t, string(file)); !bytes.Equal(g.Save(a), file) {
			t.Fatalf("%q: %q", file, g.Save(a))
		}
	}
	eachText("\",\r\na", 7, holds)
	every := make([]byte, 0, 512)
	for c := range 256 {
		every = append(every, byte(c), ',')
	}
	for from := 0; from+60 <= len(every); from += 20 {
		holds(every[from : from+60])
	}
}

// TestP11_5RightFilesStayRight: each right file of few bytes, with any one or two rows moved or deleted.
func TestP11_5RightFilesStayRight(t *testing.T) {
	behind := func(a *arena.Arena, g grid.Grid) {
		file := g.Save(a)
		if !quote.Right(file) {
			t.Fatalf("%q is not right", file)
		}
		again, b := load(t, string(file))
		if again.Len() != g.Len() {
			t.Fatalf("%q: %d rows, not %d", file, again.Len(), g.Len())
		}
		for i, r := range walk.All(g.Rows) {
			if s, _ := again.Row(i); !bytes.Equal(r.Print(a), s.Print(b)) {
				t.Fatalf("%q: row %d is %q, not %q", file, i, s.Print(b), r.Print(a))
			}
		}
	}
	right := 0
	var lines [][]byte
	eachText("\",\na", 4, func(b []byte) {
		if quote.Right(b) {
			lines = append(lines, b)
		}
	})
	for _, one := range lines {
		for _, two := range lines {
			for _, tail := range []string{"", "\r\n"} {
				file := string(one) + "\r\n" + string(two) + tail + "x"[:len(tail)/2]
				if !quote.Right([]byte(file)) {
					continue
				}
				right++
				g, a := load(t, file)
				for i := range g.Len() {
					less, _ := g.Delete(i)
					behind(a, less)
					for j := range g.Len() {
						moved, _ := g.Move(i, j)
						behind(a, moved)
						moved, _ = moved.Delete(0)
						behind(a, moved)
					}
				}
			}
		}
	}
	if right < 1000 {
		t.Errorf("%d right files only", right)
	}
}

func TestP1OwnMemory(t *testing.T) {
	file := []byte("a,\"b\"\"c\"\nd")
	g, a, _ := grid.Load(file)
	for i := range file {
		file[i] = '!'
	}
	saved := g.Save(a)
	for i := range saved {
		saved[i] = '?'
	}
	if string(g.Save(a)) != "a,\"b\"\"c\"\nd" {
		t.Errorf("%q", g.Save(a))
	}
	seen := g.Visible()
	_ = append(seen[:0], 7, 7)
	if !slices.Equal(g.Visible(), []int{0, 1}) {
		t.Error("Visible")
	}
	_, b, _ := grid.Load(make([]byte, api.MaxBytes+1))
	if s, err := b.Add([]byte("x")); err != api.OK || s != (arena.Span{N: 1}) {
		t.Error("the arena beside an error")
	}
	_, b, _ = grid.Load(make([]byte, api.MaxBytes+1))
	if b.Len() != 0 {
		t.Error("it is another one each time")
	}
}

func TestP1GridsByHand(t *testing.T) {
	wild := cell.Cell{Text: piece.Of(arena.Span{At: math.MinInt, N: math.MaxInt}), Raw: arena.Span{At: math.MaxInt, N: math.MaxInt}, Kept: true}
	grids := []grid.Grid{{}, {Tail: true, End: math.MinInt}, {Rows: tree.Of(row.Row{}, row.Row{End: 99}), End: math.MaxInt}, {Rows: tree.Of(row.Row{Cells: make([]cell.Cell, 3*api.MaxCols)}, row.Row{Cells: []cell.Cell{wild}, End: -5})}}
	for _, a := range []*arena.Arena{nil, {}} {
		for _, g := range grids {
			for _, i := range places(2) {
				g.Row(i)
				g.At(i, i)
				g.At(0, i)
				g.Set(i, 0, wild)
				g.Set(1, i, wild)
				g.Put(i, row.Row{})
				g.Insert(i, row.Row{})
				g.Delete(i)
				g.Move(i, 0)
				g.Move(0, i)
			}
			g.Width()
			g.Visible()
			g.Save(a)
			for _, h := range grids {
				grid.Same(a, g, h)
			}
		}
	}
	if _, _, err := grid.Load(nil); err != api.OK {
		t.Error("nil")
	}
}

func TestP11Example(t *testing.T) {
	g, a := load(t, "a,b\nc")
	if g.Len() != 2 || g.Tail {
		t.Errorf("%+v", g)
	}
	if g, _ = g.Delete(0); string(g.Save(a)) != "c" {
		t.Errorf("%q", g.Save(a))
	}
}
