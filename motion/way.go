package motion

import (
	"damier/grid"
	"damier/row"
	"damier/walk"
)

// ground is a grid over which a place is moved, and how wide it is, which takes long to tell again and again.
type ground struct {
	grid  grid.Grid
	width int
}

// over tells the ground that a grid is.
func over(g grid.Grid) ground {
	return ground{grid: g, width: g.Width()}
}

// seen tells whether a row is not hidden.
func seen(x row.Row) bool {
	return !x.Hidden
}

// empty tells whether a row has no text in a column. Where there is no cell, At tells an empty one.
func empty(x row.Row, c int) bool {
	y, _ := x.At(c)
	return y.Empty()
}

// behind tells the number of the nearest row behind r of which something holds; -1, if there is none.
func (s ground) behind(r int, is func(x row.Row) bool) int {
	return walk.Index(s.grid.Rows, r+1, is)
}

// ahead tells the number of the nearest row ahead of r of which something holds; -1, if there is none.
func (s ground) ahead(r int, is func(x row.Row) bool) int {
	for i, x := range walk.Back(s.grid.Rows, 0, r) {
		if is(x) {
			return i
		}
	}
	return -1
}

// first tells the number of the first row that is seen; -1, if there is none.
func (s ground) first() int {
	return s.behind(-1, seen)
}

// last tells the number of the last row that is seen; -1, if there is none.
func (s ground) last() int {
	return s.ahead(s.grid.Len(), seen)
}

// settled tells the nearest place that is settled.
func (s ground) settled(p Place) Place {
	return Place{R: s.settledRow(p.R), C: max(min(p.C, s.width-1), 0)}
}

// settledRow tells the nearest row that is seen, those from r on sooner than those ahead; 0, if there is none.
func (s ground) settledRow(r int) int {
	r = max(min(r, s.grid.Len()-1), 0)
	if here := s.behind(r-1, seen); here >= 0 {
		return here
	}
	return max(s.ahead(r, seen), 0)
}

// way tells the function that tells where a motion goes once from a settled place. What it tells may not be settled.
func (s ground) way(verb, count int) func(p Place) Place {
	switch verb {
	case 'h':
		return func(p Place) Place { return Place{R: p.R, C: p.C - 1} }
	case 'l':
		return func(p Place) Place { return Place{R: p.R, C: p.C + 1} }
	case '0':
		return func(p Place) Place { return Place{R: p.R, C: 0} }
	case '$':
		return s.lastCell
	case 'j':
		return func(p Place) Place { return p.toRow(s.behind(p.R, seen), p.R) }
	case 'k':
		return func(p Place) Place { return p.toRow(s.ahead(p.R, seen), p.R) }
	case 'G':
		return func(p Place) Place { return p.toRow(count-1, s.last()) }
	case gg:
		return func(p Place) Place { return p.toRow(count-1, s.first()) }
	case 'w':
		return s.nextText
	case 'b':
		return s.textAhead
	case '}':
		return func(p Place) Place { return p.toRow(s.behind(p.R, s.unlike(p)), s.last()) }
	case '{':
		return func(p Place) Place { return p.toRow(s.ahead(p.R, s.unlike(p)), s.first()) }
	}
	return func(p Place) Place { return p }
}

// toRow tells the place in another row, or in a third one, if there is no such row.
func (p Place) toRow(r, none int) Place {
	if r < 0 {
		r = none
	}
	return Place{R: r, C: p.C}
}

// lastCell tells the place of the last cell of the row.
func (s ground) lastCell(p Place) Place {
	x, _ := s.grid.Row(p.R)
	return Place{R: p.R, C: x.Len() - 1}
}

// nextText tells the place of the next cell that is not empty; the place itself, if there is none.
func (s ground) nextText(p Place) Place {
	for r, x := range walk.Range(s.grid.Rows, p.R, s.grid.Len()) {
		from := 0
		if r == p.R {
			from = p.C + 1
		}
		for c := from; c < x.Len() && seen(x); c++ {
			if !empty(x, c) {
				return Place{R: r, C: c}
			}
		}
	}
	return p
}

// textAhead tells the place of the nearest cell ahead that is not empty; the place itself, if there is none.
func (s ground) textAhead(p Place) Place {
	for r, x := range walk.Back(s.grid.Rows, 0, p.R+1) {
		to := x.Len()
		if r == p.R {
			to = p.C
		}
		for c := to - 1; c >= 0 && seen(x); c-- {
			if !empty(x, c) {
				return Place{R: r, C: c}
			}
		}
	}
	return p
}

// unlike tells whether a row is seen, and empty in a place's column where the place's row is not, or the other way round.
func (s ground) unlike(p Place) func(x row.Row) bool {
	here, _ := s.grid.Row(p.R)
	return func(x row.Row) bool { return seen(x) && empty(x, p.C) != empty(here, p.C) }
}
