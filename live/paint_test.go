package live_test

import (
	"testing"

	"scumble/tree"
)

// onSide is how many tiles so many places from one on meet, where they lie on both of
// the sides, a raster's and a document's.
func onSide(from int, many int, raster int, document int) int {
	met := map[int]bool{}
	for n := from; n < from+many; n++ {
		if n >= 0 && n < raster && n < document {
			met[n/16] = true
		}
	}
	return len(met)
}

// Rectangles whose sides lie on, and beside, all borders: of tiles, of the document and of
// rasters that are smaller or greater.
func TestPaintsAboutBorders(t *testing.T) {
	for _, side := range []int{1, 15, 16, 17, 31, 32, 33, 34, 35, 47, 48, 49, 60} {
		p := newPair(newDoc(t, 34, 2, tree.Edit{Kind: 1, W: side, H: 3}))
		q := newPair(newDoc(t, 2, 34, tree.Edit{Kind: 1, W: 3, H: side}))
		p.whole(t)
		q.whole(t)
		for _, from := range []int{-17, -16, -15, -1, 0, 1, 14, 15, 16, 17, 30, 31, 32, 33, 34, 35, 47, 48, 49} {
			for _, many := range []int{1, 2, 15, 16, 17, 18, 31, 32, 33, 34, 35, 51, 70} {
				should := onSide(from, many, side, 34)
				p.do(t, paint(1, from, 0, many, 1, from&1*red))
				same(t, "columns", p.whole(t), should)
				q.do(t, paint(1, 0, from, 1, many, from&1*red))
				same(t, "rows", q.whole(t), should)
			}
		}
	}
}

// A rectangle that misses on one side is seen nowhere, however long it is on the other.
func TestPaintsBeside(t *testing.T) {
	for _, raster := range [][2]int{{40, 40}, {20, 20}, {90, 90}} {
		w, h := min(raster[0], 40), min(raster[1], 40)
		p := newPair(newDoc(t, 40, 40, tree.Edit{Kind: 1, W: raster[0], H: raster[1]}))
		p.whole(t)
		for _, of := range [][4]int{
			{-9, 0, 9, 99}, {w, 0, 9, 99}, {0, -9, 99, 9}, {0, h, 99, 9}, {w, h, 9, 9}, {-9, -9, 9, 9}, {-99, h, 300, 1}, {w, -99, 1, 300}, {-300, -99, 1, 300},
		} {
			p.do(t, paint(1, of[0], of[1], of[2], of[3], red))
			same(t, "a Paint beside", p.whole(t), 0)
		}
	}
}

// Tiles that weren't laid stay so, be they painted or not, and painted tiles are laid once
// only, however often they were painted.
func TestPaintsOfUnreadTiles(t *testing.T) {
	p := newPair(sheet(t, 40, 40))
	p.do(t, paint(1, 0, 0, 40, 40, red))
	same(t, "Laid", p.live.Laid(), 0)
	same(t, "the first tile", p.read(t, 0, 0, 16, 16), 1)
	p.do(t, paint(1, 15, 15, 2, 2, blue), paint(1, 15, 15, 1, 1, red), paint(1, 0, 0, 1, 1, faint))
	same(t, "the first tile again", p.read(t, 3, 3, 3, 3), 1)
	same(t, "all", p.whole(t), 8)
	p.do(t, paint(1, 15, 15, 2, 2, blue))
	same(t, "two of four tiles", p.read(t, 0, 8, 20, 8), 2)
	p.do(t, paint(1, 15, 15, 1, 1, faint))
	same(t, "three of four tiles", p.read(t, 0, 0, 32, 32), 3)
}

// A Paint that changes no pixel is one all the same.
func TestPaintsOfWhatIsThere(t *testing.T) {
	p := newPair(sheet(t, 40, 40))
	p.whole(t)
	p.do(t, paint(1, 0, 0, 17, 1, faint))
	same(t, "a Paint of what is there", p.whole(t), 2)
}
