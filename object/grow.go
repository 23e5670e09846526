package object

import (
	"damier/block"
	"damier/grid"
	"damier/walk"
)

// growth makes an area greater, if it can.
type growth func(x block.Area) (block.Area, bool)

// grown tells the area that another one grows to.
func grown(g grid.Grid, x block.Area) block.Area {
	ways := growths(g)
	for can := true; can; {
		x, can = first(ways, x)
	}
	return x
}

// first tells what the first way makes of an area that can make it greater; the area itself, if none can.
func first(ways [4]growth, x block.Area) (block.Area, bool) {
	for _, way := range ways {
		if greater, can := way(x); can {
			return greater, true
		}
	}
	return x, false
}

// growths tells the ways in which an area of a grid grows, in the order in which they are tried:
// each by a row or a column beside it, if there is text in that. Where the grid ends no row and no column has text.
func growths(g grid.Grid) [4]growth {
	return [4]growth{
		func(x block.Area) (block.Area, bool) {
			right := block.Area{R: x.R, C: x.C + x.W, H: x.H, W: 1}
			x.W++
			return x, hasText(g, right)
		},
		func(x block.Area) (block.Area, bool) {
			left := block.Area{R: x.R, C: x.C - 1, H: x.H, W: 1}
			x.C, x.W = left.C, x.W+1
			return x, hasText(g, left)
		},
		func(x block.Area) (block.Area, bool) {
			below := block.Area{R: x.R + x.H, C: x.C, H: 1, W: x.W}
			x.H++
			return x, hasText(g, below)
		},
		func(x block.Area) (block.Area, bool) {
			above := block.Area{R: x.R - 1, C: x.C, H: 1, W: x.W}
			x.R, x.H = above.R, x.H+1
			return x, hasText(g, above)
		},
	}
}

// hasText tells whether one cell of an area at least is not empty.
func hasText(g grid.Grid, x block.Area) bool {
	for _, r := range walk.Range(g.Rows, x.R, x.R+x.H) {
		for c := x.C; c < min(x.C+x.W, r.Len()); c++ {
			if y, _ := r.At(c); !y.Empty() {
				return true
			}
		}
	}
	return false
}
