package row_test

import (
	"bytes"
	"math"
	"slices"
	"testing"

	"damier/api"
	"damier/arena"
	"damier/cell"
	"damier/piece"
	"damier/row"
	"damier/scan"
)

// eachText hands over every text of the bytes of some, up to a length.
func eachText(some string, most int, f func(b []byte)) {
	var grow func(b []byte)
	grow = func(b []byte) {
		f(b)
		for i := 0; i < len(some) && len(b) < most; i++ {
			grow(append(bytes.Clone(b), some[i]))
		}
	}
	grow(nil)
}

// letter tells a written cell of an arena's byte at a place.
func letter(at int) cell.Cell {
	return cell.Of(piece.Of(arena.Span{At: at, N: 1}))
}

// letters tells a row of n unlike cells; a list with room behind it shows whether anybody writes there.
func letters(n int) row.Row {
	cells := make([]cell.Cell, 0, n+3)
	for i := range n {
		cells = append(cells, letter(i))
	}
	return row.Row{Cells: cells, End: scan.CR, Hidden: n%2 == 1}
}

// names tells of each cell at which place its byte stands; -1, if it is the zero one.
func names(r row.Row) []int {
	var l []int
	for i := range r.Len() {
		c, _ := r.At(i)
		switch s := c.Text.Spans(); {
		case c.Kept || c.Raw != arena.Span{} || len(s) > 1:
			l = append(l, -2)
		case len(s) == 0:
			l = append(l, -1)
		default:
			l = append(l, s[0].At)
		}
	}
	return l
}

// upTo tells the numbers ahead of n.
func upTo(n int) []int {
	var l []int
	for i := range n {
		l = append(l, i)
	}
	return l
}

// unchanged says so, if a row of letters is no longer what it was.
func unchanged(t *testing.T, r row.Row, n int) {
	t.Helper()
	behind := r.Cells[n:cap(r.Cells)]
	if !slices.Equal(names(r), upTo(n)) || slices.ContainsFunc(behind, func(c cell.Cell) bool { return !c.Empty() }) {
		t.Fatalf("a row of %d became %v", n, names(r))
	}
}

// is says so, if a change of a row of n letters did not answer these cells, or this error.
func is(t *testing.T, what string, n int, got row.Row, err api.Errno, want []int, wantErr api.Errno) {
	t.Helper()
	right := got.End == scan.CR && got.Hidden == (n%2 == 1)
	if wantErr != api.OK {
		right = got.End == 0 && !got.Hidden && got.Cells == nil
		want = nil
	}
	if err != wantErr || !right || !slices.Equal(names(got), want) {
		t.Fatalf("%s of %d cells: %v %d, not %v %d; %+v", what, n, names(got), err, want, wantErr, got)
	}
}

// sizes are how many cells the rows have on which all is tried.
func sizes() []int {
	return []int{0, 1, 2, 3, 4, api.MaxCols - 1, api.MaxCols, api.MaxCols + 1}
}

// places are numbers of cells around all that is asked of a row of n cells.
func places(n int) []int {
	return []int{math.MinInt, -2, -1, 0, 1, 2, 3, n - 2, n - 1, n, n + 1, api.MaxCols - 2, api.MaxCols - 1, api.MaxCols, api.MaxCols + 1, math.MaxInt}
}

// fields tells a row of n fields of so many bytes each.
func fields(n, wide int) scan.Row {
	r := scan.Row{End: scan.LF}
	for i := range n {
		s := arena.Span{At: i * (wide + 1), N: wide}
		r.Fields = append(r.Fields, scan.Field{Raw: s, Parts: []arena.Span{s}})
	}
	return r
}

func TestP8_1Load(t *testing.T) {
	file := []byte("a,\"b\"\"c\",,d\"\r\n")
	a, _ := arena.New(file)
	from, _ := scan.One(file, 0)
	r, err := row.Load(from)
	if err != api.OK || r.Len() != 4 || r.End != scan.Both || r.Hidden {
		t.Fatalf("%+v %d", r, err)
	}
	for i, f := range from.Fields {
		c, ok := r.At(i)
		if !ok || !c.Kept || c.Raw != f.Raw || !bytes.Equal(c.Bytes(a), scan.Value(file, f)) {
			t.Errorf("%d: %+v", i, c)
		}
	}
	for _, end := range []int{scan.None, scan.LF, scan.Both, scan.CR, -1, 99} {
		if r, err := row.Load(scan.Row{Fields: from.Fields, End: end}); err != api.OK || r.End != end {
			t.Errorf("End %d: %d %d", end, r.End, err)
		}
	}
}

func TestP8_1LoadErrors(t *testing.T) {
	for _, c := range []struct {
		n, wide int
		err     api.Errno
	}{
		{1, 0, api.OK}, {1, api.MaxCell, api.OK}, {1, api.MaxCell + 1, api.ErrLong},
		{api.MaxCols, 1, api.OK}, {api.MaxCols + 1, 1, api.ErrFull}, {api.MaxCols, api.MaxCell + 1, api.ErrLong}, {api.MaxCols + 1, api.MaxCell + 1, api.ErrFull},
	} {
		r, err := row.Load(fields(c.n, c.wide))
		if err != c.err || err == api.OK && r.Len() != c.n || err != api.OK && (r.Len() != 0 || r.End != 0) {
			t.Errorf("%d fields of %d bytes: %d, %d", c.n, c.wide, r.Len(), err)
		}
	}
	// It is the value that counts, whatever its raw bytes are, and in whichever field it stands.
	half := arena.Span{At: 1, N: api.MaxCell / 2}
	apart := arena.Span{At: 500, N: api.MaxCell / 2}
	for _, c := range []struct {
		parts []arena.Span
		err   api.Errno
	}{{[]arena.Span{half, apart}, api.OK}, {[]arena.Span{half, apart, {At: 900, N: 1}}, api.ErrLong}} {
		r := fields(3, 1)
		r.Fields[2] = scan.Field{Raw: arena.Span{N: api.MaxCell + 200}, Kind: scan.Quoted, Parts: c.parts}
		if _, err := row.Load(r); err != c.err {
			t.Errorf("%v: %d", c.parts, err)
		}
	}
}

func TestP8_1Fresh(t *testing.T) {
	for _, n := range places(5) {
		r := row.Fresh(n, scan.Both)
		if r.Len() != min(max(n, 1), api.MaxCols) || r.End != scan.Both || r.Hidden || slices.ContainsFunc(names(r), func(at int) bool { return at != -1 }) {
			t.Errorf("%d: %+v", n, r)
		}
	}
	if row.Fresh(2, -7).End != -7 {
		t.Error("End")
	}
}

func TestP8_1LenAt(t *testing.T) {
	for _, n := range sizes() {
		r := letters(n)
		if r.Len() != n {
			t.Errorf("%d cells: %d", n, r.Len())
		}
		for _, i := range places(n) {
			c, ok := r.At(i)
			there := 0 <= i && i < n
			if ok != there || there && !piece.Same(c.Text, letter(i).Text) || !there && (c.Kept || !c.Empty()) {
				t.Errorf("%d of %d: %+v %v", i, n, c, ok)
			}
		}
	}
	r, _ := row.Load(fields(2, 3))
	if c, ok := r.At(1); !ok || !c.Kept || c.Raw != (arena.Span{At: 4, N: 3}) {
		t.Errorf("%+v", c)
	}
}

func TestP8_2Set(t *testing.T) {
	for _, n := range sizes() {
		for _, i := range places(n) {
			r := letters(n)
			want, wantErr := upTo(n), api.ErrRange
			if 0 <= i && i < api.MaxCols {
				for len(want) <= i {
					want = append(want, -1)
				}
				want[i], wantErr = 77, api.OK
			}
			got, err := r.Set(i, letter(77))
			is(t, "Set", n, got, err, want, wantErr)
			unchanged(t, r, n)
		}
	}
}

func TestP8_2Insert(t *testing.T) {
	for _, n := range sizes() {
		for _, i := range places(n) {
			r := letters(n)
			want, wantErr := upTo(n), api.ErrRange
			switch {
			case 0 <= i && i <= n && n >= api.MaxCols:
				wantErr = api.ErrFull
			case 0 <= i && i <= n:
				want, wantErr = slices.Insert(want, i, 77), api.OK
			}
			got, err := r.Insert(i, letter(77))
			is(t, "Insert", n, got, err, want, wantErr)
			unchanged(t, r, n)
		}
	}
}

func TestP8_2Delete(t *testing.T) {
	for _, n := range sizes() {
		for _, i := range places(n) {
			r := letters(n)
			want, wantErr := upTo(n), api.ErrRange
			switch {
			case i == 0 && n == 1:
				wantErr = api.ErrState
			case 0 <= i && i < n:
				want, wantErr = slices.Delete(want, i, i+1), api.OK
			}
			got, err := r.Delete(i)
			is(t, "Delete", n, got, err, want, wantErr)
			unchanged(t, r, n)
		}
	}
}

func TestP8_2Move(t *testing.T) {
	for _, n := range sizes() {
		for _, i := range places(n) {
			for _, j := range places(n) {
				r := letters(n)
				want, wantErr := upTo(n), api.ErrRange
				if 0 <= i && i < n && 0 <= j && j < n {
					want, wantErr = slices.Insert(slices.Delete(want, i, i+1), j, i), api.OK
				}
				got, err := r.Move(i, j)
				is(t, "Move", n, got, err, want, wantErr)
				unchanged(t, r, n)
			}
		}
	}
}

func TestP8_3Pad(t *testing.T) {
	for _, n := range sizes() {
		for _, m := range places(n) {
			r := letters(n)
			want := upTo(n)
			for len(want) < min(m, api.MaxCols) {
				want = append(want, -1)
			}
			is(t, "Pad", n, r.Pad(m), api.OK, want, api.OK)
			unchanged(t, r, n)
		}
	}
}

func TestP8_3Hide(t *testing.T) {
	for _, n := range []int{1, 2, 3} {
		for _, hidden := range []bool{true, false} {
			r := letters(n)
			got := r.Hide(hidden)
			if got.Hidden != hidden || got.End != r.End || !slices.Equal(names(got), upTo(n)) || r.Hidden != (n%2 == 1) {
				t.Errorf("%d, %v: %+v", n, hidden, got)
			}
		}
	}
}

func TestP8_3Print(t *testing.T) {
	file := []byte("\"a\",b\r\n\n\"c\"d")
	a, _ := arena.New(file)
	comma, _ := cell.Put(a, []byte("x,y"))
	for i, want := range []string{`"a",b,"x,y",`, `,,"x,y",`, `"c"d,,"x,y",`} {
		r, _ := row.Load(scan.All(file)[i])
		r, _ = r.Set(2, comma)
		if got := r.Pad(4).Print(a); string(got) != want || string(r.Hide(true).Pad(4).Print(a)) != want {
			t.Errorf("%q, not %q", got, want)
		}
	}
	if got := row.Fresh(1, scan.LF).Print(a); len(got) != 0 {
		t.Errorf("one empty cell: %q", got)
	}
	if got := row.Fresh(3, scan.LF).Print(a); string(got) != ",," {
		t.Errorf("three empty cells: %q", got)
	}
}

func TestP8_3Same(t *testing.T) {
	file := []byte("a,b,\"a\"\na,b,\"a\"\na,b\na,c,\"a\"\na,b,a\nb,a,\"a\"\na,b,\"a\"\r\n")
	a, _ := arena.New(file)
	var rows []row.Row
	for _, r := range scan.All(file) {
		l, _ := row.Load(r)
		rows = append(rows, l)
	}
	for i, r := range rows {
		for j, s := range rows {
			want := i == j || i < 2 && j < 2
			if row.Same(a, r, s) != want || row.Same(a, r, s.Hide(true)) || row.Same(a, r.Hide(true), s.Hide(true)) != want {
				t.Errorf("%d and %d: not %v", i, j, want)
			}
		}
	}
	first, _ := rows[0].At(0)
	written, _ := first.Write(a, first.Text)
	other, _ := rows[0].Set(0, written)
	if row.Same(a, rows[0], other) || row.Same(a, other, rows[0]) || !row.Same(a, other, other) {
		t.Error("a cell that was written with what it had")
	}
	if row.Same(a, rows[2], rows[2].Pad(3)) || row.Same(a, row.Fresh(1, 0), row.Row{}) {
		t.Error("a row with an empty cell more")
	}
}

func TestP8_4ThereAndBack(t *testing.T) {
	for n := 1; n <= 6; n++ {
		for i := range n {
			for j := range n {
				moved, _ := letters(n).Move(i, j)
				back, err := moved.Move(j, i)
				is(t, "Move there and back", n, back, err, upTo(n), api.OK)
			}
		}
		for i := range n + 1 {
			more, _ := letters(n).Insert(i, letter(77))
			back, err := more.Delete(i)
			is(t, "Insert and Delete", n, back, err, upTo(n), api.OK)
		}
	}
}

func TestP8_4LoadedIsPrintedAsItStood(t *testing.T) {
	eachText("\",\r\na", 6, func(file []byte) {
		a, _ := arena.New(file)
		var all []byte
		for _, r := range scan.All(file) {
			l, err := row.Load(r)
			if err != api.OK {
				t.Fatalf("%q: %d", file, err)
			}
			all = append(append(all, l.Print(a)...), scan.Mark(l.End)...)
		}
		if !bytes.Equal(all, file) {
			t.Fatalf("%q: %q", file, all)
		}
	})
}

func TestP1OwnMemory(t *testing.T) {
	from := fields(2, 3)
	r, _ := row.Load(from)
	from.Fields[0] = scan.Field{}
	from.Fields[1].Parts[0] = arena.Span{}
	if c, _ := r.At(0); c.Raw.N != 3 {
		t.Errorf("%+v", c)
	}
	if c, _ := r.At(1); c.Text.Len() != 3 {
		t.Errorf("%+v", c)
	}
	for _, change := range []func(r row.Row) row.Row{
		func(r row.Row) row.Row { r, _ = r.Set(1, letter(77)); return r },
		func(r row.Row) row.Row { r, _ = r.Insert(3, letter(77)); return r },
		func(r row.Row) row.Row { r, _ = r.Delete(2); return r },
		func(r row.Row) row.Row { r, _ = r.Move(2, 2); return r },
		func(r row.Row) row.Row { return r.Pad(4) },
	} {
		r := letters(3)
		got := change(r)
		for i := range got.Cells {
			got.Cells[i] = letter(88)
		}
		_ = append(got.Cells, letter(88), letter(88))
		unchanged(t, r, 3)
	}
	a, _ := arena.New([]byte("abc"))
	line := letters(3).Print(a)
	line[0] = '!'
	if string(letters(3).Print(a)) != "a,b,c" {
		t.Error("Print")
	}
}

func TestP1RowsByHand(t *testing.T) {
	wild := cell.Cell{Text: piece.Of(arena.Span{At: math.MinInt, N: math.MaxInt}), Raw: arena.Span{At: math.MaxInt, N: math.MaxInt}, Kept: true}
	for _, a := range []*arena.Arena{nil, {}} {
		for _, r := range []row.Row{{}, {Cells: []cell.Cell{wild, {}, wild}, End: math.MinInt}, {Cells: make([]cell.Cell, 3*api.MaxCols)}} {
			for _, i := range places(3) {
				r.At(i)
				r.Set(i, wild)
				r.Insert(i, wild)
				r.Delete(i)
				r.Move(i, 0)
				r.Move(0, i)
				r.Pad(i)
			}
			r.Print(a)
			row.Same(a, r, r)
			row.Same(a, r, row.Row{})
		}
	}
	row.Load(scan.Row{})
	row.Load(scan.Row{Fields: []scan.Field{{Raw: arena.Span{At: -1, N: -1}, Kind: 99, Parts: []arena.Span{{At: math.MaxInt, N: math.MaxInt}, {N: math.MaxInt}}}}})
}

func TestP8Example(t *testing.T) {
	r, err := row.Fresh(1, scan.LF).Set(2, letter(5))
	if err != api.OK || !slices.Equal(names(r), []int{-1, -1, 5}) {
		t.Errorf("%v %d", names(r), err)
	}
}
