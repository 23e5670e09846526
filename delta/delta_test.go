package delta_test

import (
	"fmt"
	"math"
	"slices"
	"testing"

	"damier/api"
	"damier/arena"
	"damier/cell"
	"damier/delta"
	"damier/grid"
	"damier/piece"
	"damier/row"
	"damier/scan"
	"damier/tree"
	"damier/walk"
)

// kind is a row of these tests' grids. Rows of one class are the same, whatever spans they have; those of two are not.
type kind struct {
	row   row.Row
	class int
}

// Of the kinds these are named: two of one class, and two that are like no other one.
const (
	here   = 0
	there  = 1
	hidden = 4
	other  = 8
)

// kinds tells all of them, and their arena.
func kinds(t *testing.T) ([]kind, *arena.Arena) {
	t.Helper()
	g, a, err := grid.Load([]byte("a,\"a\",b\na\nab\n"))
	if err != api.OK {
		t.Fatal(err)
	}
	at := func(r, c int) cell.Cell {
		x, ok := g.At(r, c)
		if !ok {
			t.Fatalf("no cell %d %d", r, c)
		}
		return x
	}
	of := func(end int, cells ...cell.Cell) row.Row { return row.Row{Cells: cells, End: end} }
	text := func(c ...cell.Cell) cell.Cell {
		var l []piece.Text
		for _, x := range c {
			l = append(l, x.Text)
		}
		return cell.Of(piece.Concat(l...))
	}
	kept, again, quoted, b, ab := at(0, 0), at(1, 0), at(0, 1), at(0, 2), at(2, 0)
	return []kind{
		{of(scan.LF, kept), 0},
		{of(scan.LF, again), 0},
		{of(scan.LF, quoted), 1},
		{of(scan.LF, text(kept)), 2},
		{of(scan.LF, kept).Hide(true), 3},
		{of(scan.LF, text(quoted)), 2},
		{of(scan.Both, kept), 4},
		{of(scan.LF, kept, cell.Cell{}), 5},
		{of(scan.LF, b), 6},
		{of(scan.LF, text(ab)), 7},
		{of(scan.LF, text(kept, b)), 7},
		{of(scan.LF, ab), 8},
	}, a
}

// made tells the grid of rows of such kinds; Tail and End are its own.
func made(all []kind, l []int, tail bool, end int) grid.Grid {
	return grid.Grid{Rows: tree.Of(rowsOf(all, l)...), Tail: tail, End: end}
}

// rowsOf tells rows of such kinds.
func rowsOf(all []kind, l []int) []row.Row {
	var rows []row.Row
	for _, k := range l {
		rows = append(rows, all[k].row)
	}
	return rows
}

// mark tells a row from those of all other kinds, also of its class.
func mark(r row.Row) string {
	s := fmt.Sprint(r.End, r.Hidden)
	for _, c := range r.Cells {
		s += fmt.Sprint(c.Kept, c.Raw, c.Text.Spans())
	}
	return s
}

// kindsOf tells which kinds rows are; -1, where one is of none.
func kindsOf(all []kind, rows []row.Row) []int {
	var l []int
	for _, r := range rows {
		is := mark(r)
		l = append(l, slices.IndexFunc(all, func(k kind) bool { return mark(k.row) == is }))
	}
	return l
}

// change is an edit of rows by their kinds.
type change struct {
	at       int
	old, new []int
}

// editsOf tells the edits of changes.
func editsOf(all []kind, l []change) delta.Delta {
	var d delta.Delta
	for _, x := range l {
		d = append(d, delta.Edit{At: x.at, Old: rowsOf(all, x.old), New: rowsOf(all, x.new)})
	}
	return d
}

// changesOf tells the changes of edits.
func changesOf(all []kind, d delta.Delta) []change {
	var l []change
	for _, e := range d {
		l = append(l, change{e.At, kindsOf(all, e.Old), kindsOf(all, e.New)})
	}
	return l
}

// equal tells whether changes are the same.
func equal(l, m []change) bool {
	return slices.EqualFunc(l, m, func(x, y change) bool {
		return x.at == y.at && slices.Equal(x.old, y.old) && slices.Equal(x.new, y.new)
	})
}

// between tells by the words what is unlike in rows of such kinds.
func between(all []kind, l, m []int) []change {
	same := func(x, y int) bool { return all[x].class == all[y].class }
	if len(l) == len(m) {
		var d []change
		for i := range l {
			if same(l[i], m[i]) || i > 0 && !same(l[i-1], m[i-1]) {
				continue
			}
			j := i + 1
			for j < len(l) && !same(l[j], m[j]) {
				j++
			}
			d = append(d, change{i, l[i:j], m[i:j]})
		}
		return d
	}
	most := 0
	for n := range min(len(l), len(m)) + 1 {
		if slices.EqualFunc(l[:n], m[:n], same) {
			most = n
		}
	}
	l, m = l[most:], m[most:]
	least := 0
	for n := range min(len(l), len(m)) + 1 {
		if slices.EqualFunc(l[len(l)-n:], m[len(m)-n:], same) {
			least = n
		}
	}
	return []change{{most, l[:len(l)-least], m[:len(m)-least]}}
}

// eachList hands over all lists of up to so many things of some.
func eachList[T any](most int, some []T, f func(l []T)) {
	var grow func(l []T)
	grow = func(l []T) {
		f(l)
		for i := 0; i < len(some) && len(l) < most; i++ {
			grow(append(slices.Clone(l), some[i]))
		}
	}
	grow(nil)
}

// highLists are lists of as many rows as may be, and about as many: they differ at their ends, in their midst, in all, and in none.
func highLists() [][]int {
	base := make([]int, api.MaxRows)
	for i := range base {
		base[i] = []int{here, other, there, here, hidden}[i*i%5]
	}
	all := [][]int{nil, base, base[1:], base[:api.MaxRows-1], slices.Concat(base[:7], base[9:])}
	for _, places := range [][]int{{0}, {api.MaxRows - 1}, {0, 1, 5, 6, 7, 200, 399}, {199, 200}} {
		l := slices.Clone(base)
		for _, at := range places {
			l[at] = 2
		}
		all = append(all, l)
	}
	turned := slices.Clone(base)
	slices.Reverse(turned)
	return append(all, turned, slices.Repeat([]int{here}, api.MaxRows), slices.Repeat([]int{there}, 3))
}

// eachPair hands over two lists of kinds: of all kinds short ones, of few ones longer ones, and some as high as may be.
func eachPair(all []kind, f func(l, m []int)) {
	pairs := func(most int, some ...int) {
		eachList(most, some, func(l []int) {
			eachList(most, some, func(m []int) { f(l, m) })
		})
	}
	every := make([]int, len(all))
	for k := range every {
		every[k] = k
	}
	pairs(2, every...)
	pairs(4, here, there, other)
	pairs(6, here, other)
	for _, l := range highLists() {
		for _, m := range highLists() {
			f(l, m)
		}
	}
}

// Tail and End are unlike in all of them: they are not looked at.
func TestP19_1Between(t *testing.T) {
	all, a := kinds(t)
	eachPair(all, func(l, m []int) {
		d := delta.Between(made(all, l, true, scan.CR), made(all, m, false, scan.LF), a)
		if got, want := changesOf(all, d), between(all, l, m); !equal(got, want) {
			t.Fatalf("%v and %v: %v, not %v", l, m, got, want)
		}
	})
}

func TestP19_1OfFew(t *testing.T) {
	all, a := kinds(t)
	for _, x := range []struct {
		l, m []int
		want []change
	}{
		{nil, nil, nil},
		{[]int{here, other}, []int{there, other}, nil},
		{nil, []int{here}, []change{{0, nil, []int{here}}}},
		{[]int{here}, nil, []change{{0, []int{here}, nil}}},
		{[]int{here, hidden, here}, []int{other, hidden, other}, []change{{0, []int{here}, []int{other}}, {2, []int{here}, []int{other}}}},
		{[]int{here, here, here}, []int{here, here}, []change{{2, []int{here}, nil}}},
		{[]int{here, here}, []int{here, here, here}, []change{{2, nil, []int{here}}}},
		{[]int{here, other, here}, []int{here, here}, []change{{1, []int{other}, nil}}},
		{[]int{here, other, hidden}, []int{there, here, other, hidden}, []change{{1, nil, []int{here}}}},
		{[]int{here, other, here}, []int{hidden, hidden}, []change{{0, []int{here, other, here}, []int{hidden, hidden}}}},
	} {
		d := delta.Between(made(all, x.l, false, scan.LF), made(all, x.m, false, scan.LF), a)
		if got := changesOf(all, d); !equal(got, x.want) {
			t.Errorf("%v and %v: %v, not %v", x.l, x.m, got, x.want)
		}
	}
}

// done tells by the words what becomes of rows of such kinds, if changes are done to them.
func done(all []kind, l []int, changes []change) ([]int, api.Errno) {
	l = slices.Clone(l)
	for _, x := range changes {
		if x.at < 0 || x.at > len(l) || len(l[x.at:]) < len(x.old) {
			return nil, api.ErrRange
		}
		for i, k := range x.old {
			if all[l[x.at+i]].class != all[k].class {
				return nil, api.ErrState
			}
		}
		l = slices.Replace(l, x.at, x.at+len(x.old), x.new...)
		if len(l) > api.MaxRows {
			return nil, api.ErrFull
		}
	}
	return l, api.OK
}

// checkApply says so, if a delta does to a grid anything else than the words have it, or if its Turn does not take it back.
func checkApply(t *testing.T, all []kind, a *arena.Arena, l []int, changes []change) {
	t.Helper()
	g, d := made(all, l, len(l)%2 == 1, scan.CR), editsOf(all, changes)
	h, err := delta.Apply(g, a, d)
	want, wantErr := done(all, l, changes)
	if err != wantErr || !slices.Equal(kindsOf(all, walk.All(h.Rows)), want) {
		t.Fatalf("%v to %v: %v %d, not %v %d", changes, l, kindsOf(all, walk.All(h.Rows)), err, want, wantErr)
	}
	if !equal(changesOf(all, d), changes) || !slices.Equal(kindsOf(all, walk.All(g.Rows)), l) {
		t.Fatalf("%v to %v: what was handed in is changed", changes, l)
	}
	if err != api.OK {
		if h.Tail || h.End != 0 || h.Rows.Root() != nil {
			t.Fatalf("%v to %v: no zero grid beside %d", changes, l, err)
		}
		return
	}
	if h.Tail != g.Tail || h.End != g.End {
		t.Fatalf("%v to %v: Tail %v, End %d", changes, l, h.Tail, h.End)
	}
	back, err := delta.Apply(h, a, d.Turn())
	if len(l) <= api.MaxRows && (err != api.OK || !grid.Same(a, back, g)) {
		t.Fatalf("%v to %v: turned %v %d", changes, l, kindsOf(all, walk.All(back.Rows)), err)
	}
}

// eachChange hands over changes of up to two rows at all places about the ends of up to three rows.
func eachChange(f func(x change)) {
	for _, at := range []int{math.MinInt, -1, 0, 1, 2, 3, 4, math.MaxInt} {
		eachList(2, []int{here, other}, func(old []int) {
			eachList(2, []int{there}, func(new []int) { f(change{at, old, new}) })
		})
	}
}

func TestP19_2Apply(t *testing.T) {
	all, a := kinds(t)
	eachList(3, []int{here, there, other}, func(l []int) {
		checkApply(t, all, a, l, nil)
		eachChange(func(x change) { checkApply(t, all, a, l, []change{x}) })
	})
	// What is done first tells what the second one finds.
	for _, l := range [][]int{nil, {here}, {here, other}, {other, there, here}} {
		eachChange(func(x change) {
			eachChange(func(y change) { checkApply(t, all, a, l, []change{x, y}) })
		})
	}
}

// Rows that are alike in all but one thing are not the same.
func TestP19_2AllKinds(t *testing.T) {
	all, a := kinds(t)
	for k := range all {
		for old := range all {
			checkApply(t, all, a, []int{other, k}, []change{{1, []int{old}, []int{hidden}}})
			checkApply(t, all, a, []int{k, k}, []change{{0, []int{k, old}, nil}})
		}
	}
}

func TestP19_2Full(t *testing.T) {
	all, a := kinds(t)
	rows := func(n int) []int { return slices.Repeat([]int{here}, n) }
	for _, n := range []int{0, 1, api.MaxRows - 2, api.MaxRows - 1, api.MaxRows, api.MaxRows + 1, api.MaxRows + 2} {
		for _, changes := range [][]change{
			nil,
			{{0, nil, nil}},
			{{n, nil, rows(1)}},
			{{n, nil, rows(2)}},
			{{0, rows(1), rows(2)}},
			{{0, rows(2), rows(1)}},
			{{0, rows(n), rows(api.MaxRows)}},
			{{0, rows(n), rows(api.MaxRows + 1)}},
			// It is full in between, and only then.
			{{0, nil, rows(2)}, {0, rows(2), nil}},
			{{0, rows(2), nil}, {0, nil, rows(2)}},
			{{0, rows(1), rows(2)}, {1, rows(1), nil}},
			// Of several errors the one that is named first is told, edit by edit.
			{{n + 1, nil, rows(2)}},
			{{n, rows(1), rows(3)}},
			{{0, []int{other}, rows(3)}},
			{{0, nil, rows(3)}, {-1, nil, nil}},
			{{0, nil, rows(3)}, {0, []int{other}, nil}},
			{{-1, nil, nil}, {0, nil, rows(3)}},
			{{0, []int{other}, nil}, {-1, nil, nil}},
		} {
			checkApply(t, all, a, rows(n), changes)
		}
	}
}

// someDeltas are deltas of all lengths up to three, of edits of unlike rows.
func someDeltas() [][]change {
	some := []change{{0, nil, nil}, {2, []int{here, other}, []int{hidden}}, {-5, nil, []int{there, there, here}}, {math.MaxInt, []int{2}, nil}}
	var l [][]change
	eachList(3, some, func(changes []change) { l = append(l, changes) })
	return l
}

func TestP19_3Turn(t *testing.T) {
	all, _ := kinds(t)
	for _, changes := range someDeltas() {
		d := editsOf(all, changes)
		var want []change
		for _, x := range slices.Backward(changes) {
			want = append(want, change{x.at, x.new, x.old})
		}
		if got := changesOf(all, d.Turn()); !equal(got, want) {
			t.Fatalf("%v turned: %v", changes, got)
		}
		if got := changesOf(all, d.Turn().Turn()); !equal(got, changes) {
			t.Fatalf("%v turned twice: %v", changes, got)
		}
		if !equal(changesOf(all, d), changes) {
			t.Fatalf("%v became %v", changes, changesOf(all, d))
		}
	}
}

func TestP19_3Cost(t *testing.T) {
	all, _ := kinds(t)
	for _, changes := range someDeltas() {
		n := 0
		for _, x := range changes {
			n += len(slices.Concat(x.old, x.new))
		}
		if got := editsOf(all, changes).Cost(); got != n {
			t.Fatalf("%v: %d, not %d", changes, got, n)
		}
	}
	if n := delta.Delta(nil).Cost(); n != 0 {
		t.Errorf("of none: %d", n)
	}
}

// touches tells by the words whether one of the changes has the row r.
func touches(changes []change, r int) bool {
	for _, x := range changes {
		for k := range max(len(x.old), len(x.new)) {
			// What would be above the greatest number is no row's.
			if x.at <= math.MaxInt-k && x.at+k == r {
				return true
			}
		}
	}
	return false
}

func TestP19_3Touches(t *testing.T) {
	all, _ := kinds(t)
	far := []int{math.MinInt, math.MinInt + 1, math.MinInt + 2, -1 << 40, -2, -1, 0, 1, 2, 3, 4, 5, 6, 1 << 40, math.MaxInt - 2, math.MaxInt - 1, math.MaxInt}
	check := func(changes []change) {
		t.Helper()
		d := editsOf(all, changes)
		for _, r := range far {
			if got := d.Touches(r); got != touches(changes, r) {
				t.Fatalf("%v touches %d: %v", changes, r, got)
			}
		}
	}
	check(nil)
	lists := [][]int{nil, {here}, {here, other}, {here, here, here}}
	for _, at := range far {
		for _, old := range lists {
			for _, new := range lists {
				check([]change{{at, old, new}})
				check([]change{{at, old, new}, {3, []int{here}, nil}})
				check([]change{{4, nil, []int{here, here}}, {at, old, new}})
			}
		}
	}
	for _, changes := range someDeltas() {
		check(changes)
	}
}

func TestP19_4ThereAndBack(t *testing.T) {
	all, a := kinds(t)
	eachPair(all, func(l, m []int) {
		g, h := made(all, l, true, scan.CR), made(all, m, true, scan.CR)
		d := delta.Between(g, h, a)
		there, err := delta.Apply(g, a, d)
		if err != api.OK || !grid.Same(a, there, h) || string(there.Save(a)) != string(h.Save(a)) {
			t.Fatalf("%v to %v: %v %d", l, m, kindsOf(all, walk.All(there.Rows)), err)
		}
		back, err := delta.Apply(there, a, d.Turn())
		if err != api.OK || !grid.Same(a, back, g) || string(back.Save(a)) != string(g.Save(a)) {
			t.Fatalf("%v to %v and back: %v %d", l, m, kindsOf(all, walk.All(back.Rows)), err)
		}
		if len(d) > 0 && d.Cost() == 0 {
			t.Fatalf("%v and %v: an edit of no rows", l, m)
		}
		if len(delta.Between(g, g, a)) != 0 {
			t.Fatalf("%v is unlike itself", l)
		}
	})
}

// spoil writes into lists of rows, and appends to them.
func spoil(lists ...[]row.Row) {
	for _, l := range lists {
		_ = append(l, row.Row{End: -9}, row.Row{End: -9}, row.Row{End: -9})
		for i := range l {
			l[i] = row.Row{End: -9}
		}
	}
}

func TestP1OwnMemory(t *testing.T) {
	all, a := kinds(t)
	l, m := []int{here, other, here, hidden, there, other}, []int{other, other, hidden, here, there, here}
	g, h := made(all, l, false, scan.LF), made(all, m, false, scan.LF)
	stays := func(what string) {
		t.Helper()
		if !slices.Equal(kindsOf(all, walk.All(g.Rows)), l) || !slices.Equal(kindsOf(all, walk.All(h.Rows)), m) {
			t.Fatalf("%s: a grid is changed", what)
		}
	}
	want := between(all, l, m)
	for k := range want {
		d := delta.Between(g, h, a)
		spoil(d[k].Old)
		if got := changesOf(all, d); !equal(got[k+1:], want[k+1:]) || !slices.Equal(got[k].new, want[k].new) {
			t.Fatalf("the edit %d was written into: %v", k, got)
		}
		spoil(d[k].New)
		if got := changesOf(all, d); !equal(got[k+1:], want[k+1:]) {
			t.Fatalf("the edit %d was written into: %v", k, got)
		}
		stays("Between")
	}
	d := delta.Between(g, h, a)
	for _, e := range d.Turn() {
		spoil(e.Old, e.New)
	}
	if got := changesOf(all, d); !equal(got, want) {
		t.Fatalf("written into what Turn told: %v", got)
	}
	applied, err := delta.Apply(g, a, d)
	for _, e := range d {
		spoil(e.Old, e.New)
	}
	if err != api.OK || !grid.Same(a, applied, h) {
		t.Fatalf("written into what Apply was handed: %v %d", kindsOf(all, walk.All(applied.Rows)), err)
	}
	stays("Apply")
}

// Of rows, deltas and grids made by hand nothing is promised but that each call ends.
func TestP1MadeByHand(t *testing.T) {
	wild := cell.Cell{Text: piece.Of(arena.Span{At: 1 << 40, N: 9}), Raw: arena.Span{At: -1, N: math.MaxInt}, Kept: true}
	rows := []row.Row{{}, {End: math.MinInt}, {Cells: []cell.Cell{wild}}, {Cells: make([]cell.Cell, api.MaxCols+1), Hidden: true}}
	file, err := arena.New([]byte("a"))
	if err != api.OK {
		t.Fatal(err)
	}
	for _, a := range []*arena.Arena{nil, {}, file} {
		eachList(3, rows, func(l []row.Row) {
			g, few := grid.Grid{Rows: tree.Of(l...), End: -1}, grid.Grid{Rows: tree.Of(rows[:2]...)}
			for _, h := range []grid.Grid{{}, few, g} {
				d := delta.Between(g, h, a)
				d.Touches(d.Cost())
				for _, d := range []delta.Delta{nil, {{}}, d, d.Turn(), {{At: math.MaxInt, Old: l, New: l}}, {{At: math.MinInt, Old: l}}, {{New: l}}} {
					for _, x := range []grid.Grid{{}, g, h} {
						if y, err := delta.Apply(x, a, d); err != api.OK && (y.Rows.Root() != nil || y.Tail || y.End != 0) {
							t.Fatal("no zero grid beside an error")
						}
					}
				}
			}
		})
	}
	if d := delta.Between(grid.Grid{}, grid.Grid{}, nil); len(d) != 0 {
		t.Errorf("of nothing: %v", d)
	}
	if d := delta.Delta(nil).Turn(); len(d) != 0 || delta.Delta(nil).Touches(0) {
		t.Errorf("of no edits: %v", d)
	}
}

func TestP19Example(t *testing.T) {
	g, a, _ := grid.Load([]byte("a,b\n\"c\"\nd"))
	h, err := g.Delete(1)
	if err != api.OK {
		t.Fatal(err)
	}
	d := delta.Between(g, h, a)
	second, _ := g.Row(1)
	if len(d) != 1 || d[0].At != 1 || len(d[0].Old) != 1 || !row.Same(a, d[0].Old[0], second) || len(d[0].New) != 0 {
		t.Fatalf("%v", d)
	}
	if back, err := delta.Apply(h, a, d.Turn()); err != api.OK || string(back.Save(a)) != "a,b\n\"c\"\nd" {
		t.Errorf("back: %d %q", err, back.Save(a))
	}
}
