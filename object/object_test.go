package object_test

import (
	"math"
	"slices"
	"strings"
	"testing"

	"damier/api"
	"damier/arena"
	"damier/block"
	"damier/cell"
	"damier/grid"
	"damier/motion"
	"damier/object"
	"damier/piece"
	"damier/row"
	"damier/scan"
	"damier/tree"
	"damier/walk"
)

// made tells a cell by a letter: a small one is kept, a great one written; . is empty and written, - is empty and came as quotes.
func made(a *arena.Arena, c rune) cell.Cell {
	s, _ := a.Keep([]byte(string(c)))
	switch {
	case c == '.':
		return cell.Cell{}
	case c == '-':
		quotes, _ := a.Keep([]byte(`""`))
		return cell.Load(scan.Field{Kind: scan.Quoted, Raw: quotes})
	case 'A' <= c && c <= 'Z':
		return cell.Of(piece.Of(s))
	}
	return cell.Load(scan.Field{Raw: s, Parts: []arena.Span{s}})
}

// line tells a row of such cells; ! ahead of all hides it.
func line(a *arena.Arena, s string) row.Row {
	shown := strings.TrimPrefix(s, "!")
	r := row.Row{End: scan.LF, Hidden: shown != s}
	for _, c := range shown {
		r.Cells = append(r.Cells, made(a, c))
	}
	return r
}

// sheet tells a grid of such rows.
func sheet(a *arena.Arena, l ...string) grid.Grid {
	var rows []row.Row
	for _, s := range l {
		rows = append(rows, line(a, s))
	}
	return grid.Grid{Rows: tree.Of(rows...), End: scan.LF}
}

// eachSheet hands over all grids of up to n rows of some kinds.
func eachSheet(n int, kinds []string, f func(g grid.Grid, a *arena.Arena, l []string)) {
	a, _ := arena.New(nil)
	var grow func(l []string)
	grow = func(l []string) {
		f(sheet(a, l...), a, l)
		for i := 0; i < len(kinds) && len(l) < n; i++ {
			grow(append(slices.Clone(l), kinds[i]))
		}
	}
	grow(nil)
}

// chance tells numbers below n, one after the other, always the same ones.
func chance(seed uint32) func(n int) int {
	return func(n int) int {
		seed = seed*1664525 + 1013904223
		return int(seed>>8) % n
	}
}

// great hands over some grids of many rows and columns.
func great(f func(g grid.Grid, a *arena.Arena, l []string)) {
	for i, high := range []int{7, 23, 100, api.MaxRows} {
		a, _ := arena.New(nil)
		next := chance(uint32(i))
		var l []string
		for range high {
			s := strings.Repeat("!", next(3)/2)
			for range 1 + next(api.MaxCols) {
				s += []string{"x", ".", "-", ".", "."}[next(5)]
			}
			l = append(l, s)
		}
		f(sheet(a, l...), a, l)
	}
}

// cells tells the letters of a row's cells.
func cells(s string) string {
	return strings.TrimPrefix(s, "!")
}

// width tells by the words how wide a grid of such rows is.
func width(l []string) int {
	n := 0
	for _, s := range l {
		n = max(n, len(cells(s)))
	}
	return n
}

// shown tells whether a row is not hidden.
func shown(s string) bool {
	return !strings.HasPrefix(s, "!")
}

// text tells the text that a row has in a column; "", if it has no cell there.
func text(s string, c int) string {
	if c >= len(cells(s)) {
		return ""
	}
	return strings.Trim(cells(s)[c:c+1], ".-")
}

// places are the settled ones of a grid, and others.
func places(l []string) []motion.Place {
	all := []motion.Place{{R: -1 << 40, C: 1}, {R: 1 << 40, C: -1 << 40}, {C: 1 << 40}}
	for r := -1; r <= len(l); r++ {
		for c := -1; c <= width(l); c++ {
			all = append(all, motion.Place{R: r, C: c})
		}
	}
	return all
}

// area tells the area of all rows and columns from ones on up to others.
func area(r, c, r2, c2 int) block.Area {
	return block.Area{R: r, C: c, H: r2 - r + 1, W: c2 - c + 1}
}

// lies tells whether so many things from a place on lie within a limit.
func lies(at, n, most int) bool {
	return 0 <= at && at < most && 1 <= n && n <= most && at+n <= most
}

// right tells by the words whether a part is right in a grid of so many rows and columns.
func right(x object.Part, high, wide int) bool {
	a := x.Area
	if !lies(a.R, a.H, api.MaxRows) || !lies(a.C, a.W, api.MaxCols) || a.R+a.H > high {
		return false
	}
	return x.Kind == 0 || x.Kind == 1 || x.Kind == 2 && a.C+a.W <= wide
}

// eachPart hands over all parts of some kinds and numbers.
func eachPart(kinds, rows, cols []int, f func(x object.Part)) {
	for _, kind := range kinds {
		for _, r := range rows {
			for _, h := range rows {
				for _, c := range cols {
					for _, w := range cols {
						f(object.Part{Kind: kind, Area: block.Area{R: r, C: c, H: h, W: w}})
					}
				}
			}
		}
	}
}

// anyKinds are all kinds of parts, and numbers that are none.
func anyKinds() []int {
	return []int{object.Cells, object.Rows, object.Cols, -1, 3, math.MinInt, math.MaxInt}
}

func TestP27Kinds(t *testing.T) {
	if object.Cells != 0 || object.Rows != 1 || object.Cols != 2 {
		t.Error("the kinds are others")
	}
}

func TestP27_1Right(t *testing.T) {
	edges := []int{math.MinInt, -1, 0, 1, 2, 3, 4, api.MaxCols - 1, api.MaxCols, api.MaxRows - 1, api.MaxRows, api.MaxRows + 1, math.MaxInt}
	for _, l := range [][]string{
		nil, {"a"}, {"!a", "ab"}, {"abc", "!-", "a"}, slices.Repeat([]string{"ab"}, api.MaxRows), {"a", strings.Repeat("b", api.MaxCols)},
	} {
		a, _ := arena.New(nil)
		g := sheet(a, l...)
		eachPart(anyKinds(), edges, edges, func(x object.Part) {
			if want := right(x, len(l), width(l)); object.Right(g, x) != want {
				t.Fatalf("%v in %d rows of %d cells: not %v", x, len(l), width(l), want)
			}
		})
	}
}

// hasText tells whether there is text in some rows and columns of a grid; there is none where it has none.
func hasText(l []string, x block.Area) bool {
	for r := x.R; r < x.R+x.H; r++ {
		for c := x.C; c < x.C+x.W; c++ {
			if r >= 0 && c >= 0 && r < len(l) && text(l[r], c) != "" {
				return true
			}
		}
	}
	return false
}

// grown tells by the words the area that grows from a settled place.
func grown(l []string, p motion.Place) block.Area {
	x := area(p.R, p.C, p.R, p.C)
	for {
		switch {
		case hasText(l, block.Area{R: x.R, C: x.C + x.W, H: x.H, W: 1}):
			x.W++
		case hasText(l, block.Area{R: x.R, C: x.C - 1, H: x.H, W: 1}):
			x.C, x.W = x.C-1, x.W+1
		case hasText(l, block.Area{R: x.R + x.H, C: x.C, H: 1, W: x.W}):
			x.H++
		case hasText(l, block.Area{R: x.R - 1, C: x.C, H: 1, W: x.W}):
			x.R, x.H = x.R-1, x.H+1
		default:
			return x
		}
	}
}

// meant tells by the words which part a letter means at a settled place.
func meant(l []string, p motion.Place, letter int) object.Part {
	last := motion.Place{R: len(l) - 1, C: width(l) - 1}
	switch {
	case len(l) == 0:
		return object.Part{}
	case letter == 'c':
		return object.Part{Kind: object.Cells, Area: area(p.R, p.C, p.R, p.C)}
	case letter == 'r':
		return object.Part{Kind: object.Rows, Area: area(p.R, 0, p.R, last.C)}
	case letter == 'l':
		return object.Part{Kind: object.Cols, Area: area(0, p.C, last.R, p.C)}
	case letter == 't':
		return object.Part{Kind: object.Rows, Area: area(0, 0, last.R, last.C)}
	case letter == 'b':
		return object.Part{Kind: object.Cells, Area: grown(l, p)}
	}
	return object.Part{}
}

// letters are those that mean parts, and other numbers.
func letters() []int {
	return []int{'c', 'r', 'l', 't', 'b', 'a', 'd', 'C', 'R', 'L', 'T', 'B', 0, -1, 'b' + 256, 'c' + 1<<32, -'b', math.MinInt, math.MaxInt}
}

func TestP27_1Object(t *testing.T) {
	check := func(g grid.Grid, _ *arena.Arena, l []string) {
		for _, p := range places(l) {
			for _, letter := range letters() {
				want := meant(l, motion.Settle(g, p), letter)
				if got := object.Object(g, p, letter); got != want {
					t.Fatalf("%q: %v, %q: %v, not %v", l, p, rune(letter), got, want)
				}
			}
		}
	}
	eachSheet(3, []string{"a", ".", "!.A", "x.", "-x.X", "!...b"}, check)
	eachSheet(5, []string{"a", "..a", "!.a"}, check)
}

func TestP27_1ObjectOfGreatGrids(t *testing.T) {
	great(func(g grid.Grid, _ *arena.Arena, l []string) {
		next := chance(7)
		for range 20 {
			p := motion.Place{R: next(len(l)), C: next(width(l))}
			for _, letter := range letters() {
				want := meant(l, motion.Settle(g, p), letter)
				if got := object.Object(g, p, letter); got != want {
					t.Fatalf("%v of %d rows, %q: %v, not %v", p, len(l), rune(letter), got, want)
				}
			}
		}
	})
}

// An area winds on as long as there is text beside it, up to the limits; diagonally it doesn't.
func TestP27_1ObjectGrows(t *testing.T) {
	a, _ := arena.New(nil)
	full := slices.Repeat([]string{strings.Repeat("a", api.MaxCols)}, api.MaxRows)
	for _, x := range []struct {
		l    []string
		p    motion.Place
		want block.Area
	}{
		{full, motion.Place{R: 200, C: 20}, block.Area{H: api.MaxRows, W: api.MaxCols}},
		{[]string{"a..", ".a.", "..a"}, motion.Place{R: 1, C: 1}, block.Area{R: 1, C: 1, H: 1, W: 1}},
		{[]string{"a..", "aa.", ".aa"}, motion.Place{R: 0, C: 0}, block.Area{H: 3, W: 3}},
		{[]string{"aaaaa", "a...a", "a.a.a", "a...a"}, motion.Place{R: 2, C: 2}, block.Area{R: 2, C: 2, H: 1, W: 1}},
		{[]string{"aaaaa", "a...a", "a.a.a", "a..aa"}, motion.Place{R: 2, C: 2}, block.Area{R: 2, C: 2, H: 1, W: 1}},
		{[]string{"aaaaa", "a...a", "a.a.a", "a.aaa"}, motion.Place{R: 2, C: 2}, block.Area{H: 4, W: 5}},
		{[]string{".....", "..a.."}, motion.Place{R: 0, C: 2}, block.Area{R: 0, C: 2, H: 2, W: 1}},
		{[]string{"a", "!a", "a"}, motion.Place{R: 0}, block.Area{H: 3, W: 1}},
		{[]string{"a-a"}, motion.Place{R: 0}, block.Area{H: 1, W: 1}},
		{[]string{"a.a"}, motion.Place{C: 1}, block.Area{H: 1, W: 3}},
	} {
		if got := object.Object(sheet(a, x.l...), x.p, 'b'); got.Kind != object.Cells || got.Area != x.want {
			t.Errorf("%q, %v: %v, not %v", x.l, x.p, got, x.want)
		}
	}
}

// lined tells by the words the part of a command whose operator is its verb, at a settled place.
func lined(l []string, p motion.Place, op, count int) object.Part {
	if len(l) == 0 {
		return object.Part{}
	}
	count = max(count, 1)
	if op != 'd' && op != 'y' {
		return object.Part{Area: area(p.R, p.C, p.R, min(p.C+min(count, api.MaxCols), width(l))-1)}
	}
	last, seen := p.R, 0
	for r := p.R; r < len(l); r++ {
		if shown(l[r]) && seen < count {
			last, seen = r, seen+1
		}
	}
	return object.Part{Kind: object.Rows, Area: area(p.R, 0, last, width(l)-1)}
}

func TestP27_2Line(t *testing.T) {
	ops := []int{'d', 'y', 'c', 'x', 'D', 'Y', 0, -1, 'd' + 256, 'y' + 1<<32, -'d', math.MinInt, math.MaxInt}
	counts := []int{math.MinInt, -1, 0, 1, 2, 3, 4, 5, api.MaxCols, api.MaxRows, api.MaxCount, math.MaxInt}
	check := func(g grid.Grid, p motion.Place, l []string) {
		for _, op := range ops {
			for _, n := range counts {
				want := lined(l, motion.Settle(g, p), op, n)
				if got := object.Line(g, p, op, n); got != want {
					t.Fatalf("%q: %v, %d times %q: %v, not %v", l, p, n, rune(op), got, want)
				}
			}
		}
	}
	eachSheet(4, []string{"a", "!..", "!ab-"}, func(g grid.Grid, _ *arena.Arena, l []string) {
		for _, p := range places(l) {
			check(g, p, l)
		}
	})
	great(func(g grid.Grid, _ *arena.Arena, l []string) {
		next := chance(9)
		for range 30 {
			check(g, motion.Place{R: next(len(l)), C: next(width(l))}, l)
		}
	})
}

// Rows that are hidden are meant between others, not behind the last one.
func TestP27_2LineAmongHiddenRows(t *testing.T) {
	a, _ := arena.New(nil)
	g := sheet(a, "!a", "ab", "!a", "!a", "a", "!a")
	for n, want := range map[int]block.Area{-1: {R: 1, H: 1, W: 2}, 1: {R: 1, H: 1, W: 2}, 2: {R: 1, H: 4, W: 2}, 3: {R: 1, H: 4, W: 2}, 99: {R: 1, H: 4, W: 2}} {
		if got := object.Line(g, motion.Place{}, 'd', n); got != (object.Part{Kind: object.Rows, Area: want}) {
			t.Errorf("%d: %v, not %v", n, got, want)
		}
	}
	hidden := sheet(a, "!a", "!ab")
	if got := object.Line(hidden, motion.Place{R: 1, C: 1}, 'y', 2); got != (object.Part{Kind: object.Rows, Area: block.Area{H: 1, W: 2}}) {
		t.Errorf("where all are hidden: %v", got)
	}
}

// spanned tells by the words the part of two settled places.
func spanned(l []string, p, q motion.Place, kind int) object.Part {
	x := object.Part{Area: area(min(p.R, q.R), min(p.C, q.C), max(p.R, q.R), max(p.C, q.C))}
	switch {
	case len(l) == 0:
		return object.Part{}
	case kind == object.Rows:
		x.Kind, x.Area.C, x.Area.W = kind, 0, width(l)
	case kind == object.Cols:
		x.Kind, x.Area.R, x.Area.H = kind, 0, len(l)
	}
	return x
}

func TestP27_2Span(t *testing.T) {
	eachSheet(3, []string{"a", "!..", ".ab-"}, func(g grid.Grid, _ *arena.Arena, l []string) {
		for _, p := range places(l) {
			for _, q := range places(l) {
				for _, kind := range anyKinds() {
					want := spanned(l, motion.Settle(g, p), motion.Settle(g, q), kind)
					if got := object.Span(g, p, q, kind); got != want {
						t.Fatalf("%q: %v to %v, %d: %v, not %v", l, p, q, kind, got, want)
					}
				}
			}
		}
	})
}

// has tells by the words whether a right part has a cell.
func has(x object.Part, r, c int) bool {
	inRows := x.Area.R <= r && r < x.Area.R+x.Area.H
	inCols := x.Area.C <= c && c < x.Area.C+x.Area.W
	return (inRows || x.Kind == object.Cols) && (inCols || x.Kind == object.Rows)
}

// taken tells by the words the texts of a part.
func taken(l []string, x object.Part) [][]string {
	var all [][]string
	for r := 0; r < len(l) && right(x, len(l), width(l)); r++ {
		var texts []string
		for c := range api.MaxCols {
			if has(x, r, c) && (x.Kind != object.Rows || c < len(cells(l[r]))) {
				texts = append(texts, text(l[r], c))
			}
		}
		if len(texts) > 0 {
			all = append(all, texts)
		}
	}
	return all
}

// sameTexts tells whether rows of texts are the same.
func sameTexts(l, m [][]string) bool {
	return slices.EqualFunc(l, m, slices.Equal[[]string])
}

// eachSmallPart hands over all parts around a grid of three rows and columns.
func eachSmallPart(f func(x object.Part)) {
	numbers := []int{-1, 0, 1, 2, 3, 4}
	eachPart([]int{-1, object.Cells, object.Rows, object.Cols, 3}, numbers, append(numbers, api.MaxCols), f)
}

// samples hands over some grids of up to three rows.
func samples(f func(g grid.Grid, a *arena.Arena, l []string)) {
	a, _ := arena.New(nil)
	for _, l := range [][]string{nil, {"a"}, {"-"}, {"ab", "!c"}, {"!d", "E.f"}, {"aBc", "!-.", "d"}, {"!.", "!gh", "!i-J"}} {
		f(sheet(a, l...), a, l)
	}
}

func TestP27_3Texts(t *testing.T) {
	samples(func(g grid.Grid, a *arena.Arena, l []string) {
		eachSmallPart(func(x object.Part) {
			if got, want := object.Texts(g, a, x), taken(l, x); !sameTexts(got, want) {
				t.Fatalf("%q, %v: %q, not %q", l, x, got, want)
			}
		})
	})
}

func TestP27_3TextsOfGreatGrids(t *testing.T) {
	great(func(g grid.Grid, a *arena.Arena, l []string) {
		next := chance(11)
		for range 40 {
			r, c := next(len(l)), next(width(l))
			x := object.Part{Kind: next(3), Area: block.Area{R: r, C: c, H: 1 + next(len(l)-r), W: 1 + next(width(l)-c)}}
			if got, want := object.Texts(g, a, x), taken(l, x); !sameTexts(got, want) {
				t.Fatalf("%v of %d rows: other texts", x, len(l))
			}
		}
	})
}

func TestP27_3TextsAreOwn(t *testing.T) {
	a, _ := arena.New(nil)
	g := sheet(a, "ab", "c")
	for kind := range 3 {
		x := object.Part{Kind: kind, Area: block.Area{H: 2, W: 2}}
		l := object.Texts(g, a, x)
		want := object.Texts(g, a, x)
		_ = append(l[0], "y")
		l[0][0], l[1] = "z", nil
		if !sameTexts(object.Texts(g, a, x), want) || kind == object.Rows && len(want[1]) != 1 {
			t.Errorf("%d: %q", kind, want)
		}
	}
}

// rowsOf tells a grid's rows, with lists of their own.
func rowsOf(g grid.Grid) []row.Row {
	rows := walk.All(g.Rows)
	for i := range rows {
		rows[i].Cells = slices.Clone(rows[i].Cells)
	}
	return rows
}

// with tells a grid of other rows.
func with(g grid.Grid, rows []row.Row) grid.Grid {
	g.Rows = tree.Of(rows...)
	return g
}

// zero tells whether a grid is the zero one.
func zero(g grid.Grid) bool {
	return g.Rows.Root() == nil && !g.Tail && g.End == 0
}

// is says so, if a change did not answer this grid, or this error.
func is(t *testing.T, what string, a *arena.Arena, x object.Part, got grid.Grid, err api.Errno, want grid.Grid, wantErr api.Errno) {
	t.Helper()
	same := grid.Same(a, got, want)
	if wantErr != api.OK {
		same = zero(got)
	}
	if err != wantErr || !same {
		t.Fatalf("%s of %v: %d %q, not %d %q", what, x, err, got.Save(a), wantErr, want.Save(a))
	}
}

// cleared tells by the words a grid in which a part is cleared.
func cleared(g grid.Grid, x object.Part) (grid.Grid, api.Errno) {
	if !right(x, g.Len(), g.Width()) {
		return g, api.ErrArg
	}
	rows := rowsOf(g)
	for r := range rows {
		for c := range rows[r].Cells {
			if has(x, r, c) {
				rows[r].Cells[c] = cell.Cell{}
			}
		}
	}
	return with(g, rows), api.OK
}

// cut tells by the words a grid of which a part is cut.
func cut(g grid.Grid, x object.Part) (grid.Grid, api.Errno) {
	if !right(x, g.Len(), g.Width()) || x.Kind == object.Cells {
		return cleared(g, x)
	}
	var rows []row.Row
	for i, r := range rowsOf(g) {
		if x.Kind == object.Rows && x.Area.R <= i && i < x.Area.R+x.Area.H {
			continue
		}
		if x.Kind == object.Cols {
			r.Cells = without(r.Cells, x.Area.C, x.Area.W)
		}
		rows = append(rows, r)
	}
	if x.Kind == object.Cols && x.Area.W == g.Width() {
		return g, api.ErrState
	}
	return with(g, rows), api.OK
}

// without tells a row's cells without some columns; if none is left, an empty one.
func without(l []cell.Cell, c, n int) []cell.Cell {
	var left []cell.Cell
	for i, x := range l {
		if i < c || i >= c+n {
			left = append(left, x)
		}
	}
	if len(left) == 0 {
		left = make([]cell.Cell, 1)
	}
	return left
}

func TestP27_4Clear(t *testing.T) {
	samples(func(g grid.Grid, a *arena.Arena, l []string) {
		eachSmallPart(func(x object.Part) {
			want, wantErr := cleared(g, x)
			got, err := object.Clear(g, x)
			is(t, "Clear", a, x, got, err, want, wantErr)
		})
	})
}

func TestP27_4Cut(t *testing.T) {
	samples(func(g grid.Grid, a *arena.Arena, l []string) {
		eachSmallPart(func(x object.Part) {
			want, wantErr := cut(g, x)
			got, err := object.Cut(g, x)
			is(t, "Cut", a, x, got, err, want, wantErr)
		})
	})
}

func TestP27_4GreatGrids(t *testing.T) {
	great(func(g grid.Grid, a *arena.Arena, l []string) {
		g.Tail, g.End = true, scan.Both
		next := chance(13)
		for i := range 12 {
			r, c := next(len(l)), next(width(l))
			x := object.Part{Kind: i % 3, Area: block.Area{R: r, C: c, H: 1 + next(len(l)-r), W: 1 + next(width(l)-c)}}
			want, wantErr := cleared(g, x)
			got, err := object.Clear(g, x)
			is(t, "Clear", a, x, got, err, want, wantErr)
			want, wantErr = cut(g, x)
			got, err = object.Cut(g, x)
			is(t, "Cut", a, x, got, err, want, wantErr)
		}
	})
}

func TestP27_4CutAll(t *testing.T) {
	a, _ := arena.New(nil)
	g := sheet(a, "ab", "!c")
	if got, err := object.Cut(g, object.Object(g, motion.Place{}, 't')); err != api.OK || got.Len() != 0 || got.End != scan.LF {
		t.Errorf("all rows: %d, %d", err, got.Len())
	}
	all := object.Span(g, motion.Place{}, motion.Place{C: 1}, object.Cols)
	if got, err := object.Cut(g, all); err != api.ErrState || !zero(got) {
		t.Errorf("all columns: %d", err)
	}
}

func TestP27_5Theorem(t *testing.T) {
	check := func(g grid.Grid, a *arena.Arena, x object.Part) {
		if g.Len() == 0 && x == (object.Part{}) {
			return
		}
		h, err := object.Clear(g, x)
		if !object.Right(g, x) || err != api.OK {
			t.Fatalf("%v: is not right", x)
		}
		for _, texts := range object.Texts(h, a, x) {
			for _, s := range texts {
				if s != "" {
					t.Fatalf("%v: %q is left", x, s)
				}
			}
		}
		if got, want := len(object.Texts(h, a, x)), len(object.Texts(g, a, x)); got != want || got == 0 {
			t.Fatalf("%v: of %d rows, not %d", x, got, want)
		}
	}
	eachSheet(3, []string{"a", "!.bc", "d-E", "!."}, func(g grid.Grid, a *arena.Arena, l []string) {
		for _, p := range places(l) {
			for _, letter := range []int{'c', 'r', 'l', 't', 'b'} {
				check(g, a, object.Object(g, p, letter))
			}
			for n := range 4 {
				check(g, a, object.Line(g, p, 'd', n))
				check(g, a, object.Line(g, p, 'c', n))
				check(g, a, object.Span(g, p, motion.Place{R: n, C: 3 - n}, n))
			}
		}
	})
}

func TestP1ObjectChangesNothing(t *testing.T) {
	a, _ := arena.New(nil)
	l := []string{"aB.", "!-c", "d"}
	g := sheet(a, l...)
	old, before, room := sheet(a, l...), rowsOf(g), a.Room()
	eachSmallPart(func(x object.Part) {
		object.Texts(g, a, x)
		object.Clear(g, x)
		object.Cut(g, x)
	})
	for _, p := range places(l) {
		object.Object(g, p, 'b')
		object.Line(g, p, 'd', 2)
		object.Span(g, p, motion.Place{}, object.Rows)
	}
	if !grid.Same(a, g, old) || !grid.Same(a, g, with(g, before)) || a.Room() != room {
		t.Error("the grid, or the arena, is another one")
	}
}

func TestP1ObjectAnyArguments(t *testing.T) {
	a, _ := arena.New([]byte("ab"))
	numbers := []int{math.MinInt, math.MinInt + 1, -1 << 40, -1, 0, 1, 2, api.MaxCols, api.MaxRows, 1 << 40, math.MaxInt - 1, math.MaxInt}
	odd := cell.Cell{Text: piece.Of(arena.Span{At: 1 << 40, N: 9}), Raw: arena.Span{At: -5, N: 1 << 30}, Kept: true}
	for _, g := range []grid.Grid{
		{}, {Tail: true, End: -9},
		{Rows: tree.Of(row.Row{}), End: 99},
		{Rows: tree.Of(row.Row{}, row.Row{Hidden: true, Cells: []cell.Cell{odd, {}}}, row.Row{End: -1})},
		{Rows: tree.Of(row.Row{Cells: slices.Repeat([]cell.Cell{odd}, api.MaxCols+9)}, row.Row{Cells: []cell.Cell{odd}})},
		{Rows: tree.Of(slices.Repeat([]row.Row{{Hidden: true, Cells: []cell.Cell{odd}}}, api.MaxRows+9)...)},
	} {
		for _, a := range []*arena.Arena{nil, {}, a} {
			for _, r := range numbers {
				for _, c := range numbers {
					p, q := motion.Place{R: r, C: c}, motion.Place{R: c, C: r}
					for _, x := range []object.Part{
						object.Object(g, p, 'r'), object.Object(g, p, 'l'), object.Object(g, p, 't'),
						object.Line(g, p, 'd', c), object.Line(g, p, 'c', c), object.Span(g, p, q, r), object.Span(g, p, q, object.Cols),
						{Kind: r, Area: block.Area{C: c, H: 1, W: 1}}, {Kind: object.Cols, Area: block.Area{R: r, C: c, H: r, W: c}},
					} {
						if g.Len() == 0 && object.Right(g, x) {
							t.Fatalf("%v is right where there are no rows", x)
						}
						object.Texts(g, a, x)
						object.Clear(g, x)
						object.Cut(g, x)
					}
				}
			}
		}
		object.Object(g, motion.Place{R: 1, C: 1}, 'b')
	}
}

func TestP27Examples(t *testing.T) {
	g, _, _ := grid.Load([]byte("a,b\n,c"))
	if got := object.Object(g, motion.Place{}, 'b'); got != (object.Part{Area: block.Area{H: 2, W: 2}}) {
		t.Errorf("b: %v", got)
	}
}
