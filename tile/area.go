package tile

import (
	"iter"
	"math"

	"scumble/api"
)

// span is the numbers from one to below another; none, if that isn't greater.
type span struct{ from, to int }

// spanOf are n numbers from the first one on, as far as they lie on a side.
func spanOf(first int, n int, side int) span {
	// Cut ahead, so that the sum doesn't leave the range of int.
	n = min(max(n, 0), math.MaxInt-max(first, 0))
	return span{onSide(first, side), onSide(first+n, side)}
}

// onSide is the number from 0 to a side that is nearest to n.
func onSide(n int, side int) int { return min(max(n, 0), side) }

// within are the span's numbers in the tile of this number, from where the tile
// begins.
func (s span) within(n int) span {
	begin := n * api.Tile
	return span{max(s.from-begin, 0), min(s.to-begin, api.Tile)}
}

// tiles are the numbers of the tiles that the span reaches.
func (s span) tiles() span {
	if s.count() == 0 {
		return span{}
	}
	return span{s.from / api.Tile, (s.to-1)/api.Tile + 1}
}

// count is how many numbers the span has.
func (s span) count() int { return max(s.to-s.from, 0) }

// area is the places of a rectangle.
type area struct{ x, y span }

// within is what of the area lies in the tile at a place, from where the tile
// begins.
func (a area) within(at place) area {
	return area{a.x.within(at[0]), a.y.within(at[1])}
}

// tiles is how many tiles the area reaches.
func (a area) tiles() int { return a.x.tiles().count() * a.y.tiles().count() }

// places are those of the tiles that the area reaches.
func (a area) places() iter.Seq[place] {
	return func(yield func(place) bool) {
		x, y := a.x.tiles(), a.y.tiles()
		for j := y.from; j < y.to; j++ {
			for i := x.from; i < x.to; i++ {
				if !yield(place{i, j}) {
					return
				}
			}
		}
	}
}
