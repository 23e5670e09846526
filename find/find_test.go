package find_test

import (
	"bytes"
	"math"
	"slices"
	"strings"
	"testing"

	"damier/api"
	"damier/arena"
	"damier/cell"
	"damier/find"
	"damier/grid"
	"damier/piece"
	"damier/row"
	"damier/tree"
)

// eachText hands over all texts of up to so many bytes of some letters.
func eachText(most int, letters string, f func(b []byte)) {
	var grow func(b []byte)
	grow = func(b []byte) {
		f(b)
		for i := 0; i < len(letters) && len(b) < most; i++ {
			grow(append(slices.Clone(b), letters[i]))
		}
	}
	grow(nil)
}

// longTexts are texts in which much comes again: of one byte, by turns, of two texts that always grow by one another, and others.
func longTexts() []string {
	x, y := "a", "ab"
	for len(y) < 90 {
		x, y = y, y+x
	}
	return []string{
		strings.Repeat("a", 40),
		strings.Repeat("ab", 20) + "a",
		strings.Repeat("aab", 13),
		strings.Repeat("a", 30) + "b" + strings.Repeat("a", 30),
		y,
		strings.Repeat("abacabad", 6),
		"\x00\xff\x00\xff\xff\x00\"\r\n,\xc3\xa4\xc3",
	}
}

// each hands over texts, and texts that are sought in them: short ones of few letters all, of longer ones stretches, and those but for one byte.
func each(f func(b, p []byte)) {
	pairs := func(long, short int, letters string) {
		eachText(long, letters, func(b []byte) {
			eachText(short, letters, func(p []byte) { f(b, p) })
		})
	}
	pairs(9, 5, "ab")
	pairs(5, 3, "abc")
	for _, s := range longTexts() {
		b := []byte(s)
		for n := 0; n <= len(b); n++ {
			for _, at := range []int{0, 1, n / 2, len(b) - n} {
				if at+n > len(b) {
					continue
				}
				p := slices.Clone(b[at : at+n])
				f(b, p)
				if n > 0 {
					p[n/2]++
					f(b, p)
					p[n/2]--
					p[n-1]++
					f(b, p)
				}
			}
		}
		f(b, append(slices.Clone(b), 'a'))
	}
}

// places tells all places by the words.
func places(b, p []byte) []int {
	var l []int
	for at := range b {
		if len(p) > 0 && at+len(p) <= len(b) && bytes.Equal(b[at:at+len(p)], p) {
			l = append(l, at)
		}
	}
	return l
}

// apart tells by the words the places that are apart: always the first one that lies at or behind the end of the one ahead.
func apart(b, p []byte) []int {
	var l []int
	all, end := places(b, p), 0
	for {
		i := slices.IndexFunc(all, func(at int) bool { return at >= end })
		if i < 0 {
			return l
		}
		l = append(l, all[i])
		end = all[i] + len(p)
	}
}

// around tells numbers below, about and above the places of a text.
func around(b []byte) []int {
	l := []int{math.MinInt, -1 << 40, math.MaxInt - 1, math.MaxInt}
	for at := -2; at <= len(b)+2; at++ {
		l = append(l, at)
	}
	return l
}

func TestP17_1Every(t *testing.T) {
	each(func(b, p []byte) {
		if got, want := find.Every(b, p), places(b, p); !slices.Equal(got, want) {
			t.Fatalf("%q in %q: %v, not %v", p, b, got, want)
		}
	})
}

func TestP17_1Apart(t *testing.T) {
	each(func(b, p []byte) {
		if got, want := find.Apart(b, p), apart(b, p); !slices.Equal(got, want) {
			t.Fatalf("%q in %q: %v, not %v", p, b, got, want)
		}
	})
}

func TestP17_1FirstLast(t *testing.T) {
	each(func(b, p []byte) {
		all := places(b, p)
		for _, n := range around(b) {
			first, last := -1, -1
			for _, at := range all {
				if at >= n && first < 0 {
					first = at
				}
				if at < n {
					last = at
				}
			}
			if got := find.First(b, p, n); got != first {
				t.Fatalf("%q in %q: First from %d is %d, not %d", p, b, n, got, first)
			}
			if got := find.Last(b, p, n); got != last {
				t.Fatalf("%q in %q: Last before %d is %d, not %d", p, b, n, got, last)
			}
		}
	})
}

func TestP17_1OfNothing(t *testing.T) {
	for _, none := range [][]byte{nil, {}} {
		for _, b := range [][]byte{nil, {}, []byte("a"), []byte("aa")} {
			for _, pair := range [][2][]byte{{b, none}, {none, []byte("a")}} {
				b, p := pair[0], pair[1]
				if l := find.Every(b, p); len(l) != 0 {
					t.Errorf("%q in %q: %v", p, b, l)
				}
				if l := find.Apart(b, p); len(l) != 0 {
					t.Errorf("%q in %q: apart %v", p, b, l)
				}
				if find.First(b, p, 0) != -1 || find.Last(b, p, 9) != -1 {
					t.Errorf("%q in %q: %d %d", p, b, find.First(b, p, 0), find.Last(b, p, 9))
				}
			}
		}
	}
}

// Where much of a long text comes again, nothing of it is gone through anew.
func TestP17_1LongTexts(t *testing.T) {
	const n = 1 << 20
	b := bytes.Repeat([]byte{'a'}, n)
	p := append(bytes.Repeat([]byte{'a'}, n/2), 'b')
	if l := find.Every(b, p); len(l) != 0 {
		t.Errorf("%d places", len(l))
	}
	if l := find.Every(b, p[:n/2]); len(l) != n/2+1 {
		t.Errorf("%d places", len(l))
	}
	if l := find.Apart(b, p[:n/2]); !slices.Equal(l, []int{0, n / 2}) {
		t.Errorf("apart %v", l)
	}
	b[n-1] = 'b'
	if find.First(b, p, 0) != n/2-1 || find.Last(b, p, n) != n/2-1 {
		t.Errorf("%d %d", find.First(b, p, 0), find.Last(b, p, n))
	}
}

// replaced tells by the words a text with another one at places.
func replaced(b, p, with []byte, at []int) []byte {
	var l []byte
	for i := 0; i < len(b); i++ {
		if slices.Contains(at, i) {
			l = append(l, with...)
			i += len(p) - 1
		} else {
			l = append(l, b[i])
		}
	}
	return l
}

func TestP17_2Replace(t *testing.T) {
	each(func(b, p []byte) {
		at := apart(b, p)
		for _, with := range [][]byte{nil, []byte("a"), []byte("xyz"), append(slices.Clone(p), p...)} {
			got, n := find.Replace(b, p, with, true)
			if want := replaced(b, p, with, at); !bytes.Equal(got, want) || n != len(at) {
				t.Fatalf("%q by %q in %q: %q at %d, not %q at %d", p, with, b, got, n, want, len(at))
			}
			first := at[:min(1, len(at))]
			got, n = find.Replace(b, p, with, false)
			if want := replaced(b, p, with, first); !bytes.Equal(got, want) || n != len(first) {
				t.Fatalf("%q by %q in %q once: %q at %d, not %q at %d", p, with, b, got, n, want, len(first))
			}
		}
	})
}

func TestP17_2Examples(t *testing.T) {
	for _, x := range []struct {
		b, p, with, all, once string
		n                     int
	}{
		{"aaaaa", "aa", "b", "bba", "baaa", 2},
		{"abab", "ab", "", "", "ab", 2},
		{"abab", "b", "ab", "aabaab", "aabab", 2},
		{"one", "two", "x", "one", "one", 0},
		{"one", "", "x", "one", "one", 0},
		{"", "", "x", "", "", 0},
		{"", "a", "x", "", "", 0},
		{"a", "aa", "x", "a", "a", 0},
	} {
		all, n := find.Replace([]byte(x.b), []byte(x.p), []byte(x.with), true)
		once, m := find.Replace([]byte(x.b), []byte(x.p), []byte(x.with), false)
		if string(all) != x.all || n != x.n || string(once) != x.once || m != min(1, x.n) {
			t.Errorf("%+v: %q %d, %q %d", x, all, n, once, m)
		}
	}
}

// file is of all texts that stand in the cells of these tests.
const file = "ab,\"b\"\"\",ba,a,c,\n"

// texts tells the cells of these tests: kept ones and written ones, one of which is of three spans, and one without a text.
func texts(t *testing.T) ([]cell.Cell, *arena.Arena) {
	t.Helper()
	g, a, err := grid.Load([]byte(file))
	if err != api.OK {
		t.Fatal(err)
	}
	var l []cell.Cell
	for c := range g.Width() {
		x, _ := g.At(0, c)
		l = append(l, x)
	}
	c, at := arena.Span{At: bytes.IndexByte([]byte(file), 'c'), N: 1}, func(n int) arena.Span { return arena.Span{At: n, N: 1} }
	return append(l, cell.Of(piece.Of(c, at(0), at(1), c)), cell.Cell{}), a
}

// sheet tells a grid of such cells, of those rows hidden whose bits are 1.
func sheet(rows [][]cell.Cell, hidden int) grid.Grid {
	var l []row.Row
	for i, cells := range rows {
		l = append(l, row.Row{Cells: cells, Hidden: hidden>>i&1 == 1})
	}
	return grid.Grid{Rows: tree.Of(l...)}
}

// place is the row and the column of a cell.
type place struct{ r, c int }

// having tells by the words the cells that have p, as cells are read.
func having(rows [][]cell.Cell, hidden int, a *arena.Arena, p []byte) []place {
	var l []place
	for r, cells := range rows {
		for c, x := range cells {
			if hidden>>r&1 == 0 && len(places(x.Bytes(a), p)) > 0 {
				l = append(l, place{r, c})
			}
		}
	}
	return l
}

// behind tells whether a cell stands behind a row and a column, which may be any numbers.
func behind(x place, r, c int) bool {
	if x.r == r {
		return x.c > c
	}
	return x.r > r
}

// before tells whether a cell stands ahead of a row and a column.
func before(x place, r, c int) bool {
	if x.r == r {
		return x.c < c
	}
	return x.r < r
}

// next tells by the words what Next tells of the cells that have a text.
func next(l []place, r, c int) (int, int, bool) {
	for _, x := range l {
		if behind(x, r, c) {
			return x.r, x.c, true
		}
	}
	if len(l) == 0 {
		return 0, 0, false
	}
	return l[0].r, l[0].c, true
}

// prev tells by the words what Prev tells of the cells that have a text.
func prev(l []place, r, c int) (int, int, bool) {
	for _, x := range slices.Backward(l) {
		if before(x, r, c) {
			return x.r, x.c, true
		}
	}
	if len(l) == 0 {
		return 0, 0, false
	}
	return l[len(l)-1].r, l[len(l)-1].c, true
}

// sought are the texts that are sought in these tests' cells.
func sought() [][]byte {
	return [][]byte{nil, []byte("a"), []byte("b"), []byte("ab"), []byte("b\""), []byte("\"b"), []byte("cabc"), []byte("ca"), []byte("bc"), []byte("zz"), []byte("ab,")}
}

// eachSheet hands over grids: of rows of up to two cells all small ones, with all choices of hidden rows, and some as great as may be.
func eachSheet(t *testing.T, f func(rows [][]cell.Cell, hidden int, a *arena.Arena)) {
	some, a := texts(t)
	kinds := [][]cell.Cell{nil, {some[0]}, {some[4], some[1]}, {some[6], some[2], some[7]}, {some[3], some[5]}}
	var grow func(rows [][]cell.Cell)
	grow = func(rows [][]cell.Cell) {
		for hidden := range 1 << len(rows) {
			f(rows, hidden, a)
		}
		for i := 0; i < len(kinds) && len(rows) < 3; i++ {
			grow(append(slices.Clone(rows), kinds[i]))
		}
	}
	grow(nil)
	var tall [][]cell.Cell
	for r := range 60 {
		var cells []cell.Cell
		for c := range r*7%api.MaxCols + 1 {
			cells = append(cells, some[(r*r+c*5)%len(some)])
		}
		tall = append(tall, cells)
	}
	f(tall, 0, a)
	f(tall, 0x0FF0F5A5A5A5A5A5, a)
}

// ends are rows and columns about the cells of small grids, and far from all.
func ends() []int {
	return []int{math.MinInt, -1, 0, 1, 2, 3, 31, math.MaxInt}
}

func TestP17_3NextPrev(t *testing.T) {
	eachSheet(t, func(rows [][]cell.Cell, hidden int, a *arena.Arena) {
		g := sheet(rows, hidden)
		for _, p := range sought() {
			l := having(rows, hidden, a, p)
			for _, r := range ends() {
				for _, c := range ends() {
					i, j, ok := find.Next(g, a, p, r, c)
					if x, y, is := next(l, r, c); i != x || j != y || ok != is {
						t.Fatalf("%q of %v: behind %d, %d stands %d, %d, %v, not %d, %d, %v", p, l, r, c, i, j, ok, x, y, is)
					}
					i, j, ok = find.Prev(g, a, p, r, c)
					if x, y, is := prev(l, r, c); i != x || j != y || ok != is {
						t.Fatalf("%q of %v: ahead of %d, %d stands %d, %d, %v, not %d, %d, %v", p, l, r, c, i, j, ok, x, y, is)
					}
				}
			}
		}
	})
}

func TestP17_3Count(t *testing.T) {
	eachSheet(t, func(rows [][]cell.Cell, hidden int, a *arena.Arena) {
		g := sheet(rows, hidden)
		for _, p := range sought() {
			if got, want := find.Count(g, a, p), len(having(rows, hidden, a, p)); got != want {
				t.Fatalf("%q: %d, not %d", p, got, want)
			}
		}
	})
}

// What stands in quotes in the file is sought as its value, not as its raw bytes.
func TestP17_3Values(t *testing.T) {
	g, a, _ := grid.Load([]byte("x,\"a,\"\"b\"\na,b\n\"ab\",y\n"))
	for _, x := range []struct {
		p    string
		r, c int
		ok   bool
		n    int
	}{
		{"a,\"b", 0, 1, true, 1},
		{"a", 0, 1, true, 3},
		{"\"\"", 0, 0, false, 0},
		{"\"a", 0, 0, false, 0},
		{"a,b", 0, 0, false, 0},
		{"b", 0, 1, true, 3},
		{"y", 2, 1, true, 1},
		{"", 0, 0, false, 0},
	} {
		r, c, ok := find.Next(g, a, []byte(x.p), 0, 0)
		if n := find.Count(g, a, []byte(x.p)); r != x.r || c != x.c || ok != x.ok || n != x.n {
			t.Errorf("%q: %d, %d, %v, %d", x.p, r, c, ok, n)
		}
	}
	if r, c, ok := find.Prev(g, a, []byte("a"), 0, 0); r != 2 || c != 0 || !ok {
		t.Errorf("the last one of all: %d, %d, %v", r, c, ok)
	}
	if r, c, ok := find.Prev(g, a, []byte("a"), 2, 0); r != 1 || c != 0 || !ok {
		t.Errorf("ahead of 2, 0: %d, %d, %v", r, c, ok)
	}
	if r, c, ok := find.Next(g, a, []byte("x"), 0, 0); r != 0 || c != 0 || !ok {
		t.Errorf("the only one: %d, %d, %v", r, c, ok)
	}
}

func TestP17_4RoundAbout(t *testing.T) {
	eachSheet(t, func(rows [][]cell.Cell, hidden int, a *arena.Arena) {
		g := sheet(rows, hidden)
		for _, p := range sought() {
			n := find.Count(g, a, p)
			if n == 0 {
				continue
			}
			for what, step := range map[string]func(grid.Grid, *arena.Arena, []byte, int, int) (int, int, bool){"Next": find.Next, "Prev": find.Prev} {
				r0, c0, _ := step(g, a, p, 1, 0)
				there, r, c := map[place]bool{}, r0, c0
				for range n {
					r, c, _ = step(g, a, p, r, c)
					there[place{r, c}] = true
				}
				if r != r0 || c != c0 || len(there) != n {
					t.Fatalf("%q: %d times %s from %d, %d to %d, %d, by %d cells", p, n, what, r0, c0, r, c, len(there))
				}
			}
		}
	})
}

func TestP17_4ReplacedByItself(t *testing.T) {
	each(func(b, p []byte) {
		for _, all := range []bool{false, true} {
			if got, _ := find.Replace(b, p, p, all); !bytes.Equal(got, b) {
				t.Fatalf("%q in %q: %q", p, b, got)
			}
		}
	})
}

func TestP1FindOwnMemory(t *testing.T) {
	room := func(s string) []byte { return append(make([]byte, 0, len(s)+8), s...) }
	b, p, with := room("xaxax"), room("a"), room("cc")
	stay := func(what string) {
		t.Helper()
		if string(b) != "xaxax" || string(p) != "a" || string(with) != "cc" {
			t.Fatalf("%s: %q %q %q", what, b, p, with)
		}
		for _, l := range [][]byte{b, p, with} {
			if slices.ContainsFunc(l[len(l):cap(l)], func(c byte) bool { return c != 0 }) {
				t.Fatalf("%s: something stands behind %q", what, l)
			}
		}
	}
	for _, sought := range [][]byte{p, nil, []byte("z"), b} {
		for _, all := range []bool{false, true} {
			got, _ := find.Replace(b, sought, with, all)
			stay("Replace")
			for i := range got {
				got[i] = '!'
			}
			_ = append(got, "!!!!"...)
			stay("what Replace told")
		}
	}
	every, again := find.Every(b, p), find.Every(b, p)
	stay("Every")
	for i := range every {
		every[i] = -9
	}
	if !slices.Equal(again, []int{1, 3}) || !slices.Equal(find.Every(b, p), again) || !slices.Equal(find.Apart(b, p), again) {
		t.Errorf("%v", again)
	}
}

func TestP1FindAnyArguments(t *testing.T) {
	some, a := texts(t)
	other, _ := arena.New([]byte("ab"))
	odd := cell.Of(piece.Of(arena.Span{At: 1 << 30, N: 5}, arena.Span{At: 0, N: 2}))
	grids := []grid.Grid{{}, sheet(nil, 0), sheet([][]cell.Cell{nil, {}, some, {odd}}, 0), sheet([][]cell.Cell{some}, 1)}
	for _, g := range grids {
		for _, a := range []*arena.Arena{nil, {}, other, a} {
			for _, p := range sought() {
				for _, r := range ends() {
					i, j, ok := find.Next(g, a, p, r, -r)
					k, l, is := find.Prev(g, a, p, r, -r)
					n := find.Count(g, a, p)
					if ok != (n > 0) || is != ok || !ok && i|j|k|l != 0 {
						t.Fatalf("%q: %d, %d, %v and %d, %d, %v of %d", p, i, j, ok, k, l, is, n)
					}
				}
			}
		}
	}
	if n := find.Count(grids[2], nil, []byte("a")); n != 0 {
		t.Errorf("without an arena: %d", n)
	}
}

func TestP17Example(t *testing.T) {
	b, p := []byte("aaaa"), []byte("aa")
	if l := find.Every(b, p); !slices.Equal(l, []int{0, 1, 2}) {
		t.Errorf("%v", l)
	}
	if l := find.Apart(b, p); !slices.Equal(l, []int{0, 2}) {
		t.Errorf("apart %v", l)
	}
}
