package live

import (
	"iter"

	"scumble/api"
)

// span is the numbers from one to below another; none, if that isn't greater.
type span struct{ from, to int }

func (s span) count() int { return max(s.to-s.from, 0) }

// common is the numbers that two spans have.
func (s span) common(o span) span { return span{max(s.from, o.from), min(s.to, o.to)} }

// tiles is the numbers of the tiles that the span, of numbers from 0 on, meets.
func (s span) tiles() span {
	if s.count() == 0 {
		return span{}
	}
	return span{s.from / api.Tile, (s.to-1)/api.Tile + 1}
}

// area is the places of a rectangle.
type area struct{ x, y span }

func areaOf(x int, y int, w int, h int) area { return area{span{x, x + w}, span{y, y + h}} }

// common is the places that two areas have.
func (a area) common(o area) area { return area{a.x.common(o.x), a.y.common(o.y)} }

// places are those of the tiles that the area meets.
func (a area) places() iter.Seq[place] {
	return func(yield func(place) bool) {
		x, y := a.x.tiles(), a.y.tiles()
		for j := y.from; j < y.to; j++ {
			for i := x.from; i < x.to; i++ {
				if !yield(place{i, j}) {
					return
				}
			}
		}
	}
}

// place is where a tile stands: how many are to the left of it, and how many above.
type place [2]int

// area is that of the tile there, if no side of the document cuts it.
func (p place) area() area {
	return areaOf(p[0]*api.Tile, p[1]*api.Tile, api.Tile, api.Tile)
}

// sheet is an area with its pixels, row by row.
type sheet struct {
	area
	pixels []int
}

// take gives the sheet the pixels of another one, where both lie.
func (s sheet) take(o sheet) {
	a := s.common(o.area)
	for y := a.y.from; y < a.y.to; y++ {
		copy(s.row(y, a.x), o.row(y, a.x))
	}
}

// row is the pixels of some places of a row, all of which lie in the sheet.
func (s sheet) row(y int, x span) []int {
	begin := (y - s.y.from) * s.x.count()
	return s.pixels[begin+x.from-s.x.from : begin+x.to-s.x.from]
}
