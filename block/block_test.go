package block_test

import (
	"math"
	"slices"
	"strconv"
	"strings"
	"testing"

	"damier/api"
	"damier/arena"
	"damier/block"
	"damier/cell"
	"damier/grid"
	"damier/piece"
	"damier/row"
	"damier/scan"
	"damier/tree"
	"damier/walk"
)

// values are the texts of the sample.
func values() [][]string {
	return [][]string{{"a", "b"}, {"c"}, {"de", "f", ""}, {"g\"h"}, {"", "i"}}
}

// sample tells a grid of rows of unlike lengths, with all ends, whose cells are kept; the second and the fourth one are hidden.
func sample(t *testing.T) (grid.Grid, *arena.Arena) {
	t.Helper()
	g, a, err := grid.Load([]byte("\"a\",b\r\nc\n\"d\"e,f,\"\"\r\"g\"\"h\"\n,\"i\""))
	if err != api.OK {
		t.Fatalf("the sample: %d", err)
	}
	g.Rows = walk.Map(g.Rows, func(i int, r row.Row) row.Row { return r.Hide(i%2 == 1) })
	return g, a
}

// numbered tells a grid of n rows, and its arena; each row's cells are its number, and a letter.
func numbered(t *testing.T, n int) (grid.Grid, *arena.Arena) {
	t.Helper()
	var b strings.Builder
	for i := range n {
		b.WriteString(strconv.Itoa(i) + ",x\n")
	}
	g, a, err := grid.Load([]byte(b.String()))
	if err != api.OK {
		t.Fatalf("%d rows: %d", n, err)
	}
	return g, a
}

// rowsOf tells a grid's rows, with lists of their own.
func rowsOf(g grid.Grid) []row.Row {
	rows := walk.All(g.Rows)
	for i := range rows {
		rows[i].Cells = slices.Clone(rows[i].Cells)
	}
	return rows
}

// made tells a grid of these rows, with the Tail and the End of another one.
func made(g grid.Grid, rows []row.Row) grid.Grid {
	g.Rows = tree.Of(rows...)
	return g
}

// zero tells whether a grid is the zero one.
func zero(g grid.Grid) bool {
	return g.Rows.Root() == nil && !g.Tail && g.End == 0
}

// is says so, if a change of a grid did not answer these rows, or this error.
func is(t *testing.T, what string, a *arena.Arena, g, got grid.Grid, err api.Errno, want []row.Row, wantErr api.Errno) {
	t.Helper()
	right := grid.Same(a, got, made(g, want))
	if wantErr != api.OK {
		right = zero(got)
	}
	if err != wantErr || !right {
		t.Fatalf("%s: %d %q, not %d %q", what, err, got.Save(a), wantErr, made(g, want).Save(a))
	}
}

// pair names two numbers.
func pair(i, j int) string {
	return strconv.Itoa(i) + " " + strconv.Itoa(j)
}

// told tells an area as text.
func told(x block.Area) string {
	return pair(x.R, x.C) + ", " + pair(x.H, x.W)
}

// sameTexts tells whether rows of texts are the same.
func sameTexts(l, m [][]string) bool {
	return slices.EqualFunc(l, m, slices.Equal[[]string])
}

// edges are numbers around all that is asked of places and sizes.
func edges() []int {
	return []int{math.MinInt, -1 << 40, -1, 0, 1, 2, api.MaxCols - 1, api.MaxCols, api.MaxCols + 1, api.MaxRows - 1, api.MaxRows, api.MaxRows + 1, 1 << 40, math.MaxInt}
}

// lies tells whether so many things from a place on lie within a limit.
func lies(at, n, most int) bool {
	return 0 <= at && at < most && 1 <= n && n <= most && at+n <= most
}

// eachArea hands over all areas of such places and sizes.
func eachArea(places, sizes []int, f func(x block.Area)) {
	for _, r := range places {
		for _, c := range places {
			for _, h := range sizes {
				for _, w := range sizes {
					f(block.Area{R: r, C: c, H: h, W: w})
				}
			}
		}
	}
}

// right tells whether an area is right.
func right(x block.Area) bool {
	return lies(x.R, x.H, api.MaxRows) && lies(x.C, x.W, api.MaxCols)
}

// covers tells whether an area has the cell of a row and a column.
func covers(x block.Area, r, c int) bool {
	return right(x) && x.R <= r && r < x.R+x.H && x.C <= c && c < x.C+x.W
}

func TestP13_1Right(t *testing.T) {
	eachArea(edges(), edges(), func(x block.Area) {
		if block.Right(x) != right(x) {
			t.Fatalf("%s: not %v", told(x), right(x))
		}
	})
}

func TestP13_1Cut(t *testing.T) {
	var all []block.Area
	eachArea([]int{-1, 0, 1, 2, 4}, []int{-1, 0, 1, 2, 4}, func(x block.Area) { all = append(all, x) })
	for _, x := range all {
		for _, y := range all {
			z := block.Cut(x, y)
			cells := 0
			for r := range 9 {
				for c := range 9 {
					in := covers(x, r, c) && covers(y, r, c)
					if in {
						cells++
					}
					if in != covers(z, r, c) {
						t.Fatalf("%s and %s: %s", told(x), told(y), told(z))
					}
				}
			}
			if z.H*z.W != cells || cells == 0 && z != (block.Area{}) {
				t.Fatalf("%s and %s: %s, of %d", told(x), told(y), told(z), cells)
			}
		}
	}
}

func TestP13_1CutAtTheLimits(t *testing.T) {
	all := block.Area{H: api.MaxRows, W: api.MaxCols}
	eachArea(edges(), edges(), func(x block.Area) {
		want := block.Area{}
		if right(x) {
			want = x
		}
		if got := block.Cut(x, all); got != want {
			t.Fatalf("%s and all: %s", told(x), told(got))
		}
		if got := block.Cut(all, x); got != want {
			t.Fatalf("all and %s: %s", told(x), told(got))
		}
	})
}

func TestP13_1Has(t *testing.T) {
	for _, n := range []int{0, 1, 2, 3, api.MaxCols, api.MaxRows - 1, api.MaxRows} {
		g, _ := numbered(t, n)
		eachArea(append(edges(), n-1, n), append(edges(), n-1, n, n+1), func(x block.Area) {
			if want := right(x) && x.R+x.H <= n; block.Has(g, x) != want {
				t.Fatalf("%s of %d rows: not %v", told(x), n, want)
			}
		})
	}
}

// taken tells the texts of an area of the sample.
func taken(x block.Area) [][]string {
	var l [][]string
	for r, line := range values() {
		if !right(x) || r < x.R || r >= x.R+x.H {
			continue
		}
		texts := []string{}
		for c := x.C; c < x.C+x.W; c++ {
			if c < len(line) {
				texts = append(texts, line[c])
			} else {
				texts = append(texts, "")
			}
		}
		l = append(l, texts)
	}
	return l
}

func TestP13_2Take(t *testing.T) {
	g, a := sample(t)
	try := func(x block.Area) {
		if got, want := block.Take(g, a, x), taken(x); !sameTexts(got, want) {
			t.Fatalf("%s: %q, not %q", told(x), got, want)
		}
	}
	eachArea([]int{-1, 0, 1, 2, 3, 4, 5, 6}, []int{-1, 0, 1, 2, 3, 4, 5, 6}, try)
	eachArea(edges(), edges(), try)
}

func TestP13_2TakeOfWrittenCells(t *testing.T) {
	g, a := sample(t)
	for i, s := range []string{"x,\"\r\n", "", "\xff\x00"} {
		c, err := cell.Put(a, []byte(s))
		if err != api.OK {
			t.Fatal(err)
		}
		g, _ = g.Set(1, i, c)
	}
	if got := block.Take(g, a, block.Area{R: 1, H: 1, W: 4}); !sameTexts(got, [][]string{{"x,\"\r\n", "", "\xff\x00", ""}}) {
		t.Errorf("%q", got)
	}
}

func TestP13_2TakeOwnMemory(t *testing.T) {
	g, a := sample(t)
	all := block.Area{H: 5, W: 3}
	got := block.Take(g, a, all)
	for i, line := range got {
		got[i] = append(line[:0], "other", "texts")
	}
	if got := block.Take(g, a, all); !sameTexts(got, taken(all)) {
		t.Errorf("%q", got)
	}
}

func TestP13_3Clear(t *testing.T) {
	g, a := sample(t)
	try := func(x block.Area) {
		want, wantErr := rowsOf(g), api.OK
		switch {
		case !right(x):
			wantErr = api.ErrArg
		case x.R+x.H > g.Len():
			wantErr = api.ErrRange
		default:
			for r, line := range want {
				for c := range line.Cells {
					if covers(x, r, c) {
						line.Cells[c] = cell.Cell{}
					}
				}
			}
		}
		old := rowsOf(g)
		got, err := block.Clear(g, x)
		is(t, "Clear "+told(x), a, g, got, err, want, wantErr)
		is(t, "the grid behind Clear "+told(x), a, g, g, api.OK, old, api.OK)
	}
	eachArea([]int{-1, 0, 1, 2, 3, 4, 5}, []int{-1, 0, 1, 2, 3, 4, 5, 6}, try)
	eachArea(edges(), edges(), try)
}

func TestP13_3ClearedCellsAreZero(t *testing.T) {
	g, a := sample(t)
	g, err := block.Clear(g, block.Area{C: 1, H: 5, W: 2})
	if got := string(g.Save(a)); err != api.OK || got != "\"a\",\r\nc\n\"d\"e,,\r\"g\"\"h\"\n," {
		t.Errorf("%q %d", got, err)
	}
	for _, r := range []int{0, 2, 4} {
		c, ok := g.At(r, 1)
		if !ok || c.Kept || c.Raw != (arena.Span{}) || len(c.Text.Spans()) != 0 {
			t.Errorf("the cell of row %d: %+v", r, c)
		}
	}
}

func TestP13_3Drop(t *testing.T) {
	for _, n := range []int{0, 1, 2, 7, 50, api.MaxRows - 1, api.MaxRows} {
		g, a := numbered(t, n)
		for _, r := range append(edges(), n-2, n-1, n) {
			for _, k := range append(edges(), n-2, n-1, n, n+1) {
				want, wantErr := rowsOf(g), api.ErrRange
				if lies(r, k, n) {
					want, wantErr = slices.Delete(want, r, r+k), api.OK
				}
				got, err := block.Drop(g, r, k)
				is(t, "Drop "+pair(r, k)+" of "+strconv.Itoa(n), a, g, got, err, want, wantErr)
			}
		}
	}
	g, a := sample(t)
	g, err := block.Drop(g, 1, 3)
	if got := string(g.Save(a)); err != api.OK || got != "\"a\",b\r\n,\"i\"" {
		t.Errorf("%q %d", got, err)
	}
}

// cut tells n texts, each one its number and a name.
func cut(n int, name string) []string {
	l := []string{}
	for i := range n {
		l = append(l, name+strconv.Itoa(i))
	}
	return l
}

// column tells n rows of one text.
func column(n int) [][]string {
	var l [][]string
	for _, s := range cut(n, "r") {
		l = append(l, []string{s})
	}
	return l
}

// texts are rows of texts of all lengths, and those that are about as many as may be.
func texts() [][][]string {
	return [][][]string{
		nil, {}, {nil}, {{}, nil, {}},
		{{"x"}}, {{""}}, {{"a"}}, {{"x", "y"}, {"z"}}, {{}, {"p", "", "q"}, {}}, {{"x,"}, {"\"", "\r\n"}, {"\xff"}},
		{cut(2, "k"), cut(2, "l"), cut(2, "m")},
		{cut(api.MaxCols-1, "w")}, {{"x"}, cut(api.MaxCols, "w")}, {cut(api.MaxCols+1, "w")}, {{"x"}, cut(api.MaxCols+1, "w"), {}},
		column(api.MaxRows - 6), column(api.MaxRows - 5), column(api.MaxRows - 4),
		column(api.MaxRows - 1), column(api.MaxRows), column(api.MaxRows + 1),
		append(column(api.MaxRows-5), nil), append(column(api.MaxRows), nil),
	}
}

// width tells how many texts the longest row has.
func width(l [][]string) int {
	wide := 0
	for _, line := range l {
		wide = max(wide, len(line))
	}
	return wide
}

// put tells the written cell of a text.
func put(t *testing.T, a *arena.Arena, s string) cell.Cell {
	t.Helper()
	at, err := a.Keep([]byte(s))
	if err != api.OK {
		t.Fatalf("%q: %d", s, err)
	}
	return cell.Of(piece.Of(at))
}

// pasted tells what rows there are behind a Paste.
func pasted(t *testing.T, rows []row.Row, a *arena.Arena, r, c int, l [][]string) ([]row.Row, api.Errno) {
	t.Helper()
	wide := width(l)
	switch {
	case wide == 0:
		return nil, api.ErrArg
	case r < 0 || r > len(rows) || c < 0:
		return nil, api.ErrRange
	case r+len(l) > api.MaxRows || c > api.MaxCols || c+wide > api.MaxCols:
		return nil, api.ErrFull
	}
	for i, line := range l {
		if r+i == len(rows) {
			rows = append(rows, row.Row{Cells: make([]cell.Cell, 1), End: scan.None})
		}
		for k, s := range line {
			x := &rows[r+i]
			for len(x.Cells) <= c+k {
				x.Cells = append(x.Cells, cell.Cell{})
			}
			x.Cells[c+k] = put(t, a, s)
		}
	}
	return rows, api.OK
}

func TestP13_4Paste(t *testing.T) {
	g, a := sample(t)
	old := rowsOf(g)
	for _, l := range texts() {
		for _, r := range []int{math.MinInt, -1 << 40, -1, 0, 1, 2, 3, 4, 5, 6, 1 << 40, math.MaxInt} {
			for _, c := range []int{math.MinInt, -1, 0, 1, 2, 3, 4, api.MaxCols - 3, api.MaxCols - 2, api.MaxCols - 1, api.MaxCols, 1 << 40, math.MaxInt} {
				before := a.Len()
				got, err := block.Paste(g, a, r, c, l)
				if err != api.OK && a.Len() != before {
					t.Fatalf("%s: refused, but %d bytes more", pair(r, c), a.Len()-before)
				}
				want, wantErr := pasted(t, rowsOf(g), a, r, c, l)
				is(t, "Paste "+pair(r, c)+" of "+pair(len(l), width(l)), a, g, got, err, want, wantErr)
			}
		}
	}
	is(t, "the grid behind all Pastes", a, g, g, api.OK, old, api.OK)
}

func TestP13_4PasteToNoRows(t *testing.T) {
	g, a, _ := grid.Load(nil)
	got, err := block.Paste(g, a, 0, 1, [][]string{{"x"}, {}, {"y", "z,"}})
	if s := string(got.Save(a)); err != api.OK || s != ",x\r\n\r\n,y,\"z,\"" {
		t.Errorf("%q %d", s, err)
	}
	if x, ok := got.Row(1); !ok || x.Len() != 1 || x.End != scan.None || x.Hidden || x.Cells[0].Kept {
		t.Errorf("a row that there was not: %+v", x)
	}
	if got, err := block.Paste(g, a, 1, 0, [][]string{{"x"}}); err != api.ErrRange || !zero(got) {
		t.Errorf("beyond the end: %d", err)
	}
}

func TestP13_4PasteWrites(t *testing.T) {
	g, a := sample(t)
	got, err := block.Paste(g, a, 0, 0, [][]string{{"a"}, {"c"}})
	if err != api.OK {
		t.Fatal(err)
	}
	for r := range 2 {
		if c, ok := got.At(r, 0); !ok || c.Kept || c.Raw != (arena.Span{}) {
			t.Errorf("the same text is not written in row %d: %+v", r, c)
		}
	}
	x, _ := got.Row(1)
	if s := string(got.Save(a)); !x.Hidden || x.End != scan.LF || !strings.HasPrefix(s, "a,b\r\nc\n\"d\"e") {
		t.Errorf("%q, %+v", s, x)
	}
}

// long tells a text of so many bytes that stands in no file of these tests.
func long(n int) string {
	return strings.Repeat("L", n)
}

// fill leaves an arena room for so many bytes.
func fill(t *testing.T, a *arena.Arena, room int) {
	t.Helper()
	if _, err := a.Add(make([]byte, a.Room()-room)); err != api.OK {
		t.Fatal(err)
	}
}

// calls are both ways by which texts come into a grid.
func calls() map[string]func(g grid.Grid, a *arena.Arena, l [][]string) (grid.Grid, api.Errno) {
	return map[string]func(g grid.Grid, a *arena.Arena, l [][]string) (grid.Grid, api.Errno){
		"Paste": func(g grid.Grid, a *arena.Arena, l [][]string) (grid.Grid, api.Errno) {
			return block.Paste(g, a, 1, 1, l)
		},
		"Rows": func(g grid.Grid, a *arena.Arena, l [][]string) (grid.Grid, api.Errno) {
			return block.Rows(g, a, 1, l)
		},
	}
}

func TestP13_4And5FirstErrorOfACell(t *testing.T) {
	tooLong := long(api.MaxCell + 1)
	for what, call := range calls() {
		g, a := sample(t)
		before := a.Len()
		got, err := call(g, a, [][]string{{"one", "two"}, {"three", tooLong, "four"}, {"five"}})
		kept := string(a.Bytes(arena.Span{At: before, N: a.Len() - before}))
		if err != api.ErrLong || !zero(got) || kept != "onetwothree" {
			t.Errorf("%s: %d, kept %q", what, err, kept)
		}
		fill(t, a, 3)
		for _, x := range []struct {
			l    [][]string
			want api.Errno
		}{
			{[][]string{{"four"}, {tooLong}}, api.ErrFull},
			{[][]string{{tooLong}, {"four"}}, api.ErrLong},
			{[][]string{{"six", tooLong, "x"}}, api.ErrLong},
			{[][]string{{"seven"}}, api.ErrFull},
			{[][]string{{"one", "", "b"}}, api.OK},
		} {
			if got, err := call(g, a, x.l); err != x.want || x.want != api.OK && !zero(got) {
				t.Errorf("%s of %d rows: %d, not %d", what, len(x.l), err, x.want)
			}
		}
		if a.Room() != 0 {
			t.Errorf("%s: room for %d", what, a.Room())
		}
	}
}

func TestP13_4And5LongestText(t *testing.T) {
	for what, call := range calls() {
		g, a := sample(t)
		got, err := call(g, a, [][]string{{"x", long(api.MaxCell)}})
		if at := block.Take(got, a, block.Area{R: 1, H: 1, W: 3}); err != api.OK || !slices.Contains(at[0], long(api.MaxCell)) {
			t.Errorf("%s: %d", what, err)
		}
	}
}

func TestP13_4And5OfANilArena(t *testing.T) {
	g, _ := sample(t)
	for what, call := range calls() {
		for want, l := range map[api.Errno][][]string{api.ErrNil: {{""}}, api.ErrLong: {{long(api.MaxCell + 1)}}, api.ErrArg: nil} {
			if got, err := call(g, nil, l); err != want || !zero(got) {
				t.Errorf("%s: %d, not %d", what, err, want)
			}
		}
	}
	if got := block.Take(g, nil, block.Area{H: 1, W: 2}); !sameTexts(got, [][]string{{"", ""}}) {
		t.Errorf("Take: %q", got)
	}
}

// putIn tells what rows there are behind Rows.
func putIn(t *testing.T, rows []row.Row, a *arena.Arena, r int, l [][]string) ([]row.Row, api.Errno) {
	t.Helper()
	wrong := func(line []string) bool { return len(line) < 1 || len(line) > api.MaxCols }
	switch {
	case len(l) == 0 || slices.ContainsFunc(l, wrong):
		return nil, api.ErrArg
	case r < 0 || r > len(rows):
		return nil, api.ErrRange
	case len(rows)+len(l) > api.MaxRows:
		return nil, api.ErrFull
	}
	for i, line := range l {
		x := row.Row{End: scan.None}
		for _, s := range line {
			x.Cells = append(x.Cells, put(t, a, s))
		}
		rows = slices.Insert(rows, r+i, x)
	}
	return rows, api.OK
}

func TestP13_5Rows(t *testing.T) {
	g, a := sample(t)
	old := rowsOf(g)
	for _, l := range texts() {
		for _, r := range []int{math.MinInt, -1 << 40, -1, 0, 1, 2, 3, 4, 5, 6, api.MaxRows, 1 << 40, math.MaxInt} {
			before := a.Len()
			got, err := block.Rows(g, a, r, l)
			if err != api.OK && a.Len() != before {
				t.Fatalf("%d: refused, but %d bytes more", r, a.Len()-before)
			}
			want, wantErr := putIn(t, rowsOf(g), a, r, l)
			is(t, "Rows "+strconv.Itoa(r)+" of "+pair(len(l), width(l)), a, g, got, err, want, wantErr)
		}
	}
	is(t, "the grid behind all Rows", a, g, g, api.OK, old, api.OK)
}

func TestP13_5RowsOfFullGrids(t *testing.T) {
	for n, want := range map[int]api.Errno{api.MaxRows - 2: api.OK, api.MaxRows - 1: api.ErrFull, api.MaxRows: api.ErrFull} {
		g, a := numbered(t, n)
		if _, err := block.Rows(g, a, n/2, [][]string{{"x"}, {"y"}}); err != want {
			t.Errorf("%d rows: %d, not %d", n, err, want)
		}
	}
	g, a, _ := grid.Load(nil)
	got, err := block.Rows(g, a, 0, [][]string{{"x", ","}, {""}})
	if s := string(got.Save(a)); err != api.OK || s != "x,\",\"\r\n\r\n" {
		t.Errorf("%q %d", s, err)
	}
}

func TestP13_6PasteAndTake(t *testing.T) {
	g, a := sample(t)
	even := func(l [][]string) bool {
		return !slices.ContainsFunc(l, func(line []string) bool { return len(line) != width(l) })
	}
	for _, l := range slices.DeleteFunc(texts(), func(l [][]string) bool { return !even(l) }) {
		for r := range 6 {
			for c := range api.MaxCols {
				got, err := block.Paste(g, a, r, c, l)
				if err != api.OK {
					continue
				}
				x := block.Area{R: r, C: c, H: len(l), W: width(l)}
				if !block.Has(got, x) || !sameTexts(block.Take(got, a, x), l) {
					t.Fatalf("%s: %q", told(x), block.Take(got, a, x))
				}
			}
		}
	}
}

func TestP13_6RowsAndDrop(t *testing.T) {
	g, a := sample(t)
	for _, l := range texts() {
		for r := range 6 {
			if more, err := block.Rows(g, a, r, l); err == api.OK {
				got, err := block.Drop(more, r, len(l))
				is(t, "Rows and Drop", a, g, got, err, rowsOf(g), api.OK)
			}
		}
	}
}

func TestP13NothingIsKeptOfTexts(t *testing.T) {
	for what, call := range calls() {
		g, a := sample(t)
		l := [][]string{{"x", "y"}, {"z"}}
		got, _ := call(g, a, l)
		want := rowsOf(got)
		if !sameTexts(l, [][]string{{"x", "y"}, {"z"}}) {
			t.Errorf("%s: %q", what, l)
		}
		l[0][0], l[1] = "other", nil
		is(t, what, a, got, got, api.OK, want, api.OK)
	}
}

func TestP1GridsByHand(t *testing.T) {
	_, a := sample(t)
	wide := row.Row{Cells: make([]cell.Cell, api.MaxCols+3), End: -7}
	odd := row.Row{Cells: []cell.Cell{cell.Of(piece.Of(arena.Span{At: 1 << 40, N: 9}))}}
	for _, rows := range [][]row.Row{{}, {{}}, {{}, row.Fresh(2, 9)}, {wide, odd}, make([]row.Row, api.MaxRows+2)} {
		g := grid.Grid{Rows: tree.Of(rows...)}
		eachArea(edges(), []int{math.MinInt, 0, 1, 2, api.MaxCols, api.MaxRows, math.MaxInt}, func(x block.Area) {
			block.Take(g, a, x)
			if got, err := block.Clear(g, x); err != api.OK && !zero(got) {
				t.Fatalf("Clear %s: %d, and a grid", told(x), err)
			}
		})
		if x := (block.Area{H: api.MaxRows, W: 1}); block.Has(g, x) != (len(rows) >= api.MaxRows) || len(block.Take(g, a, x)) != min(len(rows), api.MaxRows) {
			t.Errorf("all rows of %d", len(rows))
		}
		for _, r := range edges() {
			block.Rows(g, a, r, [][]string{{"x"}})
			for _, c := range edges() {
				block.Drop(g, r, c)
				block.Paste(g, a, r, c, [][]string{{"x", "y"}, nil, {"z"}})
			}
		}
	}
}

func TestP13Example(t *testing.T) {
	g, a, _ := grid.Load([]byte("a,b\nc"))
	if got := block.Take(g, a, block.Area{H: 2, W: 2}); !sameTexts(got, [][]string{{"a", "b"}, {"c", ""}}) {
		t.Errorf("%q", got)
	}
}
