package filter_test

import (
	"fmt"
	"math"
	"slices"
	"strings"
	"testing"

	"damier/api"
	"damier/arena"
	"damier/cell"
	"damier/filter"
	"damier/grid"
	"damier/num"
	"damier/piece"
	"damier/row"
	"damier/scan"
	"damier/tree"
	"damier/walk"
)

// most is the longest Arg that is right.
var most = strings.Repeat("x", api.MaxLine)

// rightArgs are Args that are right; of Blank the first one alone is.
func rightArgs() []string {
	return []string{"", "a", "9", "10", "-1", "007", "ab", "!", "~=<>^$?", "1=", "\x00\xff\t\v", "\xc3\xa4", " ", ",\"", most}
}

// wrongArgs are Args that are not right, of whatever Op.
func wrongArgs() []string {
	return []string{most + "x", "\n", "\r", "a\n", "\rb", most[1:] + "\n", "a\r\nb"}
}

// outside are numbers that lie outside of those from 0 to ahead of n.
func outside(n int) []int {
	return []int{math.MinInt, -1 << 32, -2, -1, n, n + 1, 1 << 32, math.MaxInt}
}

// rightTests are tests that are right.
func rightTests() []filter.Test {
	var l []filter.Test
	for _, col := range []int{0, 1, 8, 9, 38, api.MaxCols - 1} {
		for op := filter.Has; op <= filter.Blank; op++ {
			for _, arg := range rightArgs() {
				if op == filter.Blank && arg != "" {
					continue
				}
				l = append(l, filter.Test{Col: col, Op: op, Arg: arg}, filter.Test{Col: col, Op: op, Arg: arg, Not: true})
			}
		}
	}
	return l
}

// wrongTests are tests of which one thing, or more, is not right.
func wrongTests() []filter.Test {
	var l []filter.Test
	put := func(t filter.Test) {
		not := t
		not.Not = true
		l = append(l, t, not)
	}
	for op := filter.Has; op <= filter.Blank; op++ {
		for _, col := range outside(api.MaxCols) {
			put(filter.Test{Col: col, Op: op})
		}
		for _, arg := range wrongArgs() {
			put(filter.Test{Op: op, Arg: arg})
		}
	}
	for _, op := range outside(filter.Blank + 1) {
		put(filter.Test{Op: op})
		put(filter.Test{Col: 1, Op: op, Arg: "a"})
		put(filter.Test{Col: -1, Op: op})
	}
	for _, arg := range rightArgs()[1:] {
		put(filter.Test{Op: filter.Blank, Arg: arg})
	}
	return l
}

func TestP18_1Numbers(t *testing.T) {
	for i, op := range []int{filter.Has, filter.Is, filter.Under, filter.Over, filter.Begins, filter.Ends, filter.Blank} {
		if op != i {
			t.Errorf("%d is %d", i, op)
		}
	}
}

func TestP18_1Right(t *testing.T) {
	for _, x := range rightTests() {
		if !filter.Right(x) {
			t.Errorf("%+v is not right", x)
		}
	}
	for _, x := range wrongTests() {
		if filter.Right(x) {
			t.Errorf("%+v is right", x)
		}
	}
}

// none is told of a row that has no cell in a column.
const none = "none"

// put tells a written cell of a text.
func put(a *arena.Arena, text string) cell.Cell {
	x, err := cell.Put(a, []byte(text))
	if err != api.OK {
		panic("no such cell")
	}
	return x
}

// line tells a row that has such a text in the column c, and another one ahead of it and behind; if it is none, nothing from there on.
func line(a *arena.Arena, c int, text string) row.Row {
	var r row.Row
	for range c {
		r.Cells = append(r.Cells, put(a, "before"))
	}
	if text != none {
		r.Cells = append(r.Cells, put(a, text), put(a, "behind"))
	}
	return r
}

// texts are what stands in cells of these tests.
func texts() []string {
	return []string{none, "", "a", "b", "ab", "ba", "aba", "A", "9", "10", "7", "007", "+7", "-1", "99999999999999999999", " ", "~=<>^$?", "1=", "\xc3\xa4", "\xc3", "b\na", "\r"}
}

// holds tells by the words whether a test that is right holds of a text; none is taken as the empty one.
func holds(text string, x filter.Test) bool {
	if text == none {
		text = ""
	}
	is := false
	switch x.Op {
	case filter.Has:
		for at := 0; at+len(x.Arg) <= len(text); at++ {
			is = is || text[at:at+len(x.Arg)] == x.Arg
		}
	case filter.Is:
		is = text == x.Arg
	case filter.Under:
		is = num.Compare([]byte(text), []byte(x.Arg)) == -1
	case filter.Over:
		is = num.Compare([]byte(text), []byte(x.Arg)) == 1
	case filter.Begins:
		is = len(x.Arg) <= len(text) && text[:len(x.Arg)] == x.Arg
	case filter.Ends:
		is = len(x.Arg) <= len(text) && text[len(text)-len(x.Arg):] == x.Arg
	case filter.Blank:
		is = len(text) == 0
	}
	return is != x.Not
}

func TestP18_1Holds(t *testing.T) {
	a, _ := arena.New(nil)
	for _, x := range rightTests() {
		for _, text := range texts() {
			if text == none && x.Col == 0 {
				// Such a row has no cell at all.
				if got := filter.Holds(row.Row{}, a, x); got != holds(none, x) {
					t.Errorf("%+v of no cell: %v", x, got)
				}
			}
			if text != none && x.Col == api.MaxCols-1 {
				// There is no room behind.
				r := line(a, x.Col, text)
				r.Cells = r.Cells[:api.MaxCols]
				if got := filter.Holds(r, a, x); got != holds(text, x) {
					t.Errorf("%+v of %q: %v", x, text, got)
				}
				continue
			}
			for _, hidden := range []bool{false, true} {
				if got := filter.Holds(line(a, x.Col, text).Hide(hidden), a, x); got != holds(text, x) {
					t.Errorf("%+v of %q: %v", x, text, got)
				}
			}
		}
	}
}

func TestP18_1HoldsExamples(t *testing.T) {
	a, _ := arena.New(nil)
	for _, x := range []struct {
		op        int
		arg, text string
		want      bool
	}{
		{filter.Has, "a", "ba", true},
		{filter.Has, "a", "A", false},
		{filter.Has, "", "", true},
		{filter.Has, "", "x", true},
		{filter.Has, "aa", "a", false},
		{filter.Is, "7", "007", false},
		{filter.Is, "7", "7", true},
		{filter.Is, "", none, true},
		{filter.Under, "10", "9", true},
		{filter.Under, "10", "x", false},
		{filter.Under, "10", "", false},
		{filter.Under, "7", "007", false},
		{filter.Under, "x", "99", true},
		{filter.Under, "x", none, true},
		{filter.Over, "10", "9", false},
		{filter.Over, "10", "11", true},
		{filter.Over, "10", "x", true},
		{filter.Over, "10", none, true},
		{filter.Over, "7", "+7", false},
		{filter.Begins, "ab", "abc", true},
		{filter.Begins, "ab", "cab", false},
		{filter.Begins, "", none, true},
		{filter.Ends, "ab", "cab", true},
		{filter.Ends, "ab", "abc", false},
		{filter.Ends, "abc", "bc", false},
		{filter.Blank, "", "", true},
		{filter.Blank, "", none, true},
		{filter.Blank, "", " ", false},
	} {
		r := line(a, 2, x.text)
		yes, no := filter.Test{Col: 2, Op: x.op, Arg: x.arg}, filter.Test{Col: 2, Op: x.op, Arg: x.arg, Not: true}
		if got := filter.Holds(r, a, yes); got != x.want {
			t.Errorf("%+v: %v", x, got)
		}
		if got := filter.Holds(r, a, no); got == x.want {
			t.Errorf("%+v: with Not %v", x, got)
		}
	}
}

// A cell's text is asked, not its raw bytes.
func TestP18_1HoldsOfValues(t *testing.T) {
	g, a, _ := grid.Load([]byte("\"a\"\"b\",\"\"\n"))
	r, _ := g.Row(0)
	for text, want := range map[string]bool{"1=a\"b": true, "1^\"": false, "1~\"\"": false, "1$b": true, "1$\"": false, "2?": true, "!2?": false, "2=\"\"": false} {
		x, err := filter.Parse(text)
		if got := filter.Holds(r, a, x); err != api.OK || got != want {
			t.Errorf("%q: %d, %v", text, err, got)
		}
	}
}

func TestP18_1HoldsOfWrongTests(t *testing.T) {
	a, _ := arena.New(nil)
	for _, x := range wrongTests() {
		for _, text := range texts() {
			if filter.Holds(line(a, 0, text), a, x) {
				t.Errorf("%+v holds of %q", x, text)
			}
		}
	}
}

// sheet tells a grid whose rows have these texts in two columns, one text for both told as both, cut at the bar;
// those rows are hidden whose bits are 1. The rows' Ends are their numbers, so that one can be told from another one.
func sheet(a *arena.Arena, l []string, hidden int) grid.Grid {
	var rows []row.Row
	for i, both := range l {
		r := row.Row{End: i, Hidden: hidden>>i&1 == 1}
		for _, text := range strings.Split(both, "|") {
			if text != none {
				r.Cells = append(r.Cells, put(a, text))
			}
		}
		rows = append(rows, r)
	}
	return grid.Grid{Rows: tree.Of(rows...), Tail: len(l)%2 == 1, End: scan.CR}
}

// eachSheet hands over all small grids, with all choices of hidden rows, and one as high as may be.
func eachSheet(f func(g grid.Grid, a *arena.Arena)) {
	a, _ := arena.New(nil)
	some := []string{"9|a", "10|", "x|ab", "|b", none}
	var grow func(l []string)
	grow = func(l []string) {
		for hidden := range 1 << len(l) {
			f(sheet(a, l, hidden), a)
		}
		for i := 0; i < len(some) && len(l) < 3; i++ {
			grow(append(slices.Clone(l), some[i]))
		}
	}
	grow(nil)
	var tall []string
	for i := range api.MaxRows {
		tall = append(tall, some[i*i%7%len(some)])
	}
	f(sheet(a, tall, 0x5A0FF0), a)
}

// lists are rows of right tests: none, one, two, and more.
func lists() [][]filter.Test {
	under, notEmpty := filter.Test{Op: filter.Under, Arg: "10"}, filter.Test{Col: 1, Op: filter.Blank, Not: true}
	hasA, far := filter.Test{Col: 1, Op: filter.Has, Arg: "a"}, filter.Test{Col: api.MaxCols - 1, Op: filter.Blank}
	never := filter.Test{Col: api.MaxCols - 1, Op: filter.Blank, Not: true}
	return [][]filter.Test{nil, {}, {under}, {notEmpty}, {hasA}, {far}, {never}, {under, notEmpty}, {notEmpty, under}, {far, hasA, notEmpty}, {under, never}, {under, under, far}}
}

// all tells by the words whether all tests hold of a row.
func all(r row.Row, a *arena.Arena, l []filter.Test) bool {
	n := 0
	for _, x := range l {
		text := none
		if x.Col < len(r.Cells) {
			text = string(r.Cells[x.Col].Bytes(a))
		}
		if holds(text, x) {
			n++
		}
	}
	return n == len(l)
}

// sameRow tells whether two rows are the same, to the last span.
func sameRow(r, s row.Row) bool {
	return r.End == s.End && r.Hidden == s.Hidden && slices.EqualFunc(r.Cells, s.Cells, func(c, d cell.Cell) bool {
		return c.Kept == d.Kept && c.Raw == d.Raw && piece.Same(c.Text, d.Text)
	})
}

// is says so, if what a grid became is not it with just these rows hidden, in a tree as low as may be.
func is(t *testing.T, what string, g, got grid.Grid, hidden func(r row.Row) bool) {
	t.Helper()
	want := walk.All(g.Rows)
	for i, r := range want {
		want[i].Hidden = hidden(r)
	}
	if rows := walk.All(got.Rows); !slices.EqualFunc(rows, want, sameRow) {
		t.Fatalf("%s: %+v, not %+v", what, rows, want)
	}
	if got.Tail != g.Tail || got.End != g.End {
		t.Fatalf("%s: %v %d, not %v %d", what, got.Tail, got.End, g.Tail, g.End)
	}
	if got.Rows.Height() > tree.Of(want...).Height() {
		t.Fatalf("%s: a tree of the height %d", what, got.Rows.Height())
	}
}

// asItWas says so, if a grid is not as a copy of its rows has it.
func asItWas(t *testing.T, what string, g grid.Grid, old []row.Row) {
	t.Helper()
	if rows := walk.All(g.Rows); !slices.EqualFunc(rows, old, sameRow) {
		t.Fatalf("%s: %+v became %+v", what, old, rows)
	}
}

func TestP18_2Show(t *testing.T) {
	eachSheet(func(g grid.Grid, a *arena.Arena) {
		old := walk.All(g.Rows)
		for _, l := range lists() {
			got, err := filter.Show(g, a, l...)
			if err != api.OK {
				t.Fatalf("%+v: %d", l, err)
			}
			is(t, fmt.Sprintf("%+v", l), g, got, func(r row.Row) bool { return !all(r, a, l) })
			asItWas(t, "Show", g, old)
		}
	})
}

func TestP18_2Narrow(t *testing.T) {
	eachSheet(func(g grid.Grid, a *arena.Arena) {
		old := walk.All(g.Rows)
		for _, l := range lists() {
			got, err := filter.Narrow(g, a, l...)
			if err != api.OK {
				t.Fatalf("%+v: %d", l, err)
			}
			is(t, fmt.Sprintf("%+v", l), g, got, func(r row.Row) bool { return r.Hidden || !all(r, a, l) })
			asItWas(t, "Narrow", g, old)
		}
	})
}

func TestP18_2All(t *testing.T) {
	eachSheet(func(g grid.Grid, a *arena.Arena) {
		old := walk.All(g.Rows)
		is(t, "All", g, filter.All(g), func(row.Row) bool { return false })
		asItWas(t, "All", g, old)
	})
}

func TestP18_2Refused(t *testing.T) {
	a, _ := arena.New(nil)
	right := filter.Test{Op: filter.Has}
	for _, g := range []grid.Grid{{}, {End: scan.CR, Tail: true}, sheet(a, []string{"9|a", "x"}, 2)} {
		old := walk.All(g.Rows)
		for _, x := range wrongTests() {
			for _, l := range [][]filter.Test{{x}, {x, right}, {right, x}, {right, x, right}, {x, x}} {
				for what, f := range map[string]func(grid.Grid, *arena.Arena, ...filter.Test) (grid.Grid, api.Errno){"Show": filter.Show, "Narrow": filter.Narrow} {
					got, err := f(g, a, l...)
					if err != api.ErrArg || got.Rows.Root() != nil || got.Tail || got.End != 0 {
						t.Fatalf("%s by %+v: %d, %+v", what, l, err, got)
					}
					asItWas(t, what, g, old)
				}
			}
		}
	}
}

// What is to be seen of a file: the rows of which the tests hold, and nobody wrote a cell.
func TestP0_5FilteredFile(t *testing.T) {
	file := "\"9\",a\r\n10,\"\"\"b\"\nx\n007,\"a\"b"
	g, a, _ := grid.Load([]byte(file))
	for _, x := range []struct {
		text string
		want []int
	}{
		{"1<10", []int{0, 3}},
		{"!1<10", []int{1, 2}},
		{"1=9", []int{0}},
		{"1>9", []int{1, 2}},
		{"2?", []int{2}},
		{"!2?", []int{0, 1, 3}},
		{"2^a", []int{0, 3}},
		{"2$b", []int{1, 3}},
		{"2~\"", []int{1}},
		{"3?", []int{0, 1, 2, 3}},
		{"3~x", nil},
	} {
		test, err := filter.Parse(x.text)
		if err != api.OK {
			t.Fatalf("%q: %d", x.text, err)
		}
		h, err := filter.Show(g, a, test)
		if err != api.OK || !slices.Equal(h.Visible(), x.want) || string(h.Save(a)) != file {
			t.Errorf("%q: %d, %v, %q", x.text, err, h.Visible(), h.Save(a))
		}
		if back := filter.All(h); !grid.Same(a, back, g) {
			t.Errorf("%q: all rows: %v", x.text, back.Visible())
		}
	}
}

func TestP18_3PrintExamples(t *testing.T) {
	for _, x := range []struct {
		test filter.Test
		text string
	}{
		{filter.Test{}, "1~"},
		{filter.Test{Arg: "a b"}, "1~a b"},
		{filter.Test{Op: filter.Is, Not: true}, "!1="},
		{filter.Test{Col: 1, Op: filter.Under, Arg: "10"}, "2<10"},
		{filter.Test{Col: 8, Op: filter.Over, Arg: "-1"}, "9>-1"},
		{filter.Test{Col: 9, Op: filter.Begins, Arg: "^"}, "10^^"},
		{filter.Test{Col: 38, Op: filter.Ends, Arg: "!", Not: true}, "!39$!"},
		{filter.Test{Col: 39, Op: filter.Blank}, "40?"},
		{filter.Test{Op: filter.Is, Arg: most}, "1=" + most},
		{filter.Test{Op: filter.Is, Arg: "\xff\x00"}, "1=\xff\x00"},
	} {
		if got := filter.Print(x.test); got != x.text {
			t.Errorf("%+v: %q", x.test, got)
		}
		if got, err := filter.Parse(x.text); err != api.OK || got != x.test {
			t.Errorf("%q: %+v, %d", x.text, got, err)
		}
	}
}

func TestP18_3PrintAndParse(t *testing.T) {
	texts := map[string]filter.Test{}
	for _, x := range rightTests() {
		s := filter.Print(x)
		if old, there := texts[s]; there {
			t.Fatalf("%q is the text of %+v and %+v", s, old, x)
		}
		texts[s] = x
		if got, err := filter.Parse(s); err != api.OK || got != x {
			t.Errorf("%q: %+v, %d", s, got, err)
		}
	}
	for _, x := range wrongTests() {
		if s := filter.Print(x); s != "" {
			t.Errorf("%+v: %q", x, s)
		}
	}
}

// words tells by the words the text of a test that is right.
func words(x filter.Test) string {
	s := ""
	if x.Not {
		s = "!"
	}
	s += fmt.Sprint(x.Col + 1)
	s += []string{"~", "=", "<", ">", "^", "$", "?"}[x.Op]
	return s + x.Arg
}

// All texts of up to five of some bytes: those are read that are the text of a test, and no others.
func TestP18_3ParseShort(t *testing.T) {
	const letters = "!014+-~<?\n"
	var grow func(s string, n int, f func(s string))
	grow = func(s string, n int, f func(s string)) {
		f(s)
		for i := 0; i < len(letters) && n > 0; i++ {
			grow(s+letters[i:i+1], n-1, f)
		}
	}
	want := map[string]filter.Test{}
	for col := range api.MaxCols {
		for _, not := range []bool{false, true} {
			put := func(x filter.Test) {
				x.Col, x.Not = col, not
				want[words(x)] = x
			}
			put(filter.Test{Op: filter.Blank})
			grow("", 3, func(arg string) {
				if !strings.Contains(arg, "\n") {
					put(filter.Test{Op: filter.Has, Arg: arg})
					put(filter.Test{Op: filter.Under, Arg: arg})
				}
			})
		}
	}
	read := 0
	grow("", 5, func(s string) {
		x, err := filter.Parse(s)
		is, there := want[s]
		switch {
		case there && (err != api.OK || x != is):
			t.Fatalf("%q: %+v, %d, not %+v", s, x, err, is)
		case !there && (err != api.ErrForm || x != filter.Test{}):
			t.Fatalf("%q: %+v, %d", s, x, err)
		case there:
			read++
		}
	})
	if read < 1000 {
		t.Errorf("only %d were read", read)
	}
}

func TestP18_3ParseWrong(t *testing.T) {
	for _, s := range []string{
		"", "!", "1", "!1", "12", "~a", "!~", "!!1~a", "1!~a", " 1~a", "1 ~a", "1~a\n", "1~\r", "1=" + most + "x",
		"0~a", "00~", "01~a", "!01~a", "001?", "41~a", "41?", "400~a", "041?", "040~", "+1~a", "-1~a", "--1~",
		"1?a", "1? ", "!1??", "1:a", "1*", "1\x00", "1\xff", "1~\x0a", "?1", "=1", "1 ", "a~1", "1a~",
		"99999999999999999999~a", "18446744073709551617~a", "4294967297~a", strings.Repeat("1", 1000), strings.Repeat("0", 1000) + "1~a", "1.0=",
	} {
		if x, err := filter.Parse(s); err != api.ErrForm || x != (filter.Test{}) {
			t.Errorf("%q: %+v, %d", s, x, err)
		}
	}
}

func TestP18_4EitherOr(t *testing.T) {
	eachSheet(func(g grid.Grid, a *arena.Arena) {
		for _, l := range lists() {
			for _, x := range l {
				not := x
				not.Not = !x.Not
				for r, y := range walk.Range(g.Rows, 0, g.Len()) {
					if filter.Holds(y, a, x) == filter.Holds(y, a, not) {
						t.Fatalf("%+v of the row %d: both, or neither", x, r)
					}
				}
			}
		}
	})
}

func TestP18_4NarrowedTwice(t *testing.T) {
	eachSheet(func(g grid.Grid, a *arena.Arena) {
		for _, l := range lists() {
			shown, _ := filter.Show(g, a, l...)
			for _, m := range lists() {
				two, err := filter.Narrow(shown, a, m...)
				both, wrong := filter.Show(g, a, slices.Concat(l, m)...)
				if err != api.OK || wrong != api.OK || !grid.Same(a, two, both) {
					t.Fatalf("%+v, then %+v: %v, not %v", l, m, two.Visible(), both.Visible())
				}
			}
		}
	})
}

func TestP1FilterOwnMemory(t *testing.T) {
	a, _ := arena.New(nil)
	g := sheet(a, []string{"9|a", "x", none, "10|b"}, 2)
	l := lists()[9]
	old := slices.Clone(l)
	shown, _ := filter.Show(g, a, l...)
	narrowed, _ := filter.Narrow(g, a, l...)
	if !slices.Equal(l, old) {
		t.Errorf("%+v became %+v", old, l)
	}
	seen, left := shown.Visible(), narrowed.Visible()
	for i := range l {
		l[i] = filter.Test{Col: -1}
	}
	if !slices.Equal(shown.Visible(), seen) || !slices.Equal(narrowed.Visible(), left) {
		t.Errorf("%v, %v became %v, %v", seen, left, shown.Visible(), narrowed.Visible())
	}
}

func TestP1FilterAnyArguments(t *testing.T) {
	a, _ := arena.New([]byte("ab"))
	odd := cell.Of(piece.Of(arena.Span{At: 1 << 30, N: 5}, arena.Span{At: 0, N: 2}))
	rows := []row.Row{{}, {Cells: []cell.Cell{}}, {Cells: []cell.Cell{odd, {}}, End: -7}, row.Fresh(api.MaxCols, 99)}
	wide := row.Row{Cells: make([]cell.Cell, api.MaxCols+9)}
	g := grid.Grid{Rows: tree.Of(append(rows, wide)...), End: -3}
	for _, a := range []*arena.Arena{nil, {}, a} {
		for _, x := range slices.Concat(rightTests(), wrongTests()) {
			for _, r := range rows {
				filter.Holds(r, a, x)
			}
			for _, g := range []grid.Grid{{}, g} {
				shown, err := filter.Show(g, a, x)
				narrowed, again := filter.Narrow(g, a, x)
				if filter.Right(x) != (err == api.OK) || err != again || err == api.OK && (shown.Len() != g.Len() || narrowed.End != g.End) {
					t.Fatalf("%+v: %d, %d", x, err, again)
				}
			}
		}
		if h, err := filter.Show(g, a, filter.Test{Op: filter.Blank}); err != api.OK || a == nil && len(h.Visible()) != g.Len() {
			t.Errorf("%d, %v", err, h.Visible())
		}
	}
}

func TestP18Examples(t *testing.T) {
	for text, want := range map[string]filter.Test{
		"2<10": {Col: 1, Op: filter.Under, Arg: "10"},
		"!1?":  {Op: filter.Blank, Not: true},
	} {
		if got, err := filter.Parse(text); err != api.OK || got != want {
			t.Errorf("%q: %+v, %d", text, got, err)
		}
		if got := filter.Print(want); got != text {
			t.Errorf("%+v: %q", want, got)
		}
	}
}
