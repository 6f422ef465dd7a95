package live_test

import (
	"math"
	"testing"

	"scumble/affine"
	"scumble/api"
	"scumble/live"
	"scumble/tree"
)

// sheet is a document with one raster as great as it is, all of one pixel.
func sheet(t *testing.T, w int, h int) tree.Doc {
	t.Helper()
	return newDoc(t, w, h, tree.Edit{Kind: 1, W: w, H: h}, paint(1, 0, 0, w, h, faint))
}

func TestExample(t *testing.T) {
	p := newPair(sheet(t, 40, 40))
	same(t, "Laid ahead of all", p.live.Laid(), 0)
	same(t, "reading all", p.whole(t), 9)
	same(t, "reading again", p.whole(t), 0)
	p.do(t, paint(1, 20, 39, 1, 1, red))
	same(t, "behind a Paint of one pixel", p.whole(t), 1)
	same(t, "Laid", p.live.Laid(), 10)
}

func TestDoc(t *testing.T) {
	d := sheet(t, 40, 20)
	l := live.Open(d)
	same(t, "Open", told(l.Doc()), told(d))
	e := paint(1, 3, 3, 2, 2, blue)
	same(t, "Do", l.Do(e), api.OK)
	d, _ = d.Do(e)
	same(t, "Doc behind Do", told(l.Doc()), told(d))
	other := newDoc(t, 7, 90, tree.Edit{Kind: 1, N: 1})
	l.Set(other)
	same(t, "Doc behind Set", told(l.Doc()), told(other))
	same(t, "Laid", l.Laid(), 0)
}

// The smallest documents, and none at all.
func TestSmallDocuments(t *testing.T) {
	p := newPair(sheet(t, 1, 1))
	same(t, "one place", p.whole(t), 1)
	same(t, "one place again", p.whole(t), 0)
	p = newPair(newDoc(t, 33, 16))
	same(t, "no layers", p.whole(t), 3)
	none := live.Open(tree.Doc{})
	got, fault := none.Read(0, 0, 0, 0)
	same(t, "Read of nothing", fault, api.OK)
	same(t, "Read of nothing", len(got), 0)
	_, fault = none.Read(0, 0, 1, 1)
	same(t, "Read of nothing", fault, api.ErrRange)
	same(t, "Laid of nothing", none.Laid(), 0)
}

// Each edit that is refused, with its error.
func TestRefused(t *testing.T) {
	p := newPair(newDoc(t, 40, 40, tree.Edit{Kind: 1, W: 40, H: 40}, paint(1, 0, 0, 40, 40, red), tree.Edit{Kind: 1, N: 1}, tree.Edit{Kind: 1, N: 2}))
	p.whole(t)
	before := told(p.live.Doc())
	for _, of := range []struct {
		fault api.Errno
		e     tree.Edit
	}{
		{api.ErrKind, tree.Edit{}}, {api.ErrKind, tree.Edit{Kind: 10, ID: 1}}, {api.ErrKind, tree.Edit{Kind: math.MaxInt, ID: 1}},
		{api.ErrKind, tree.Edit{Kind: 1, N: 3}}, {api.ErrLimit, tree.Edit{Kind: 1}}, {api.ErrPlace, tree.Edit{Kind: 1, N: 1, At: 4}},
		{api.ErrId, tree.Edit{Kind: 2, ID: 4}}, {api.ErrId, tree.Edit{Kind: 2}},
		{api.ErrCycle, tree.Edit{Kind: 3, ID: 2, To: 2}},
		{api.ErrId, paint(9, 0, 0, 40, 40, blue)}, {api.ErrKind, paint(2, 0, 0, 40, 40, blue)}, {api.ErrForm, paint(1, 0, 0, 40, 40, 0xffffff00)},
		{api.ErrForm, tree.Edit{Kind: 4, ID: 1}}, {api.ErrForm, tree.Edit{Kind: 4, ID: 1, W: 2, H: 2, P: []int{0}}},
		{api.ErrLimit, paint(1, -32769, 0, 40, 40, blue)}, {api.ErrLimit, paint(1, 0, math.MaxInt, 40, 40, blue)},
		{api.ErrValue, tree.Edit{Kind: 5, ID: 1, N: 256}}, {api.ErrValue, tree.Edit{Kind: 6, ID: 1, N: 2}},
		{api.ErrLimit, tree.Edit{Kind: 7, ID: 1}}, {api.ErrFlat, tree.Edit{Kind: 8, ID: 1}}, {api.ErrValue, tree.Edit{Kind: 9, ID: 3, N: 3}},
	} {
		same(t, "Do", p.live.Do(of.e), of.fault)
		p.do(t, of.e)
		same(t, "behind what is refused", p.whole(t), 0)
		same(t, "behind what is refused", told(p.live.Doc()), before)
	}
}

// What a Read answers is laid no more, whatever rectangles it was read in.
func TestReadLaysOnlyWhatItReads(t *testing.T) {
	p := newPair(sheet(t, 50, 40))
	same(t, "the first place", p.read(t, 0, 0, 1, 1), 1)
	same(t, "the first tile", p.read(t, 0, 0, 16, 16), 0)
	same(t, "one place more", p.read(t, 0, 0, 17, 16), 1)
	same(t, "the last place", p.read(t, 49, 39, 1, 1), 1)
	same(t, "the last tile", p.read(t, 48, 32, 2, 8), 0)
	same(t, "four tiles' corner", p.read(t, 15, 15, 2, 2), 2)
	same(t, "a row", p.read(t, 0, 31, 50, 1), 2)
	same(t, "a column", p.read(t, 47, 0, 1, 40), 2)
	same(t, "all", p.whole(t), 3)
	same(t, "Laid", p.live.Laid(), 12)
}

func TestEmptyRectangles(t *testing.T) {
	p := newPair(sheet(t, 40, 20))
	for _, of := range [][4]int{{0, 0, 0, 0}, {0, 0, 40, 0}, {0, 0, 0, 20}, {40, 20, 0, 0}, {40, 0, 0, 20}, {17, 17, 0, 1}, {0, 20, 40, 0}, {16, 16, 1, 0}} {
		got, fault := p.live.Read(of[0], of[1], of[2], of[3])
		same(t, "Read", fault, api.OK)
		same(t, "Read", len(got), 0)
		same(t, "an empty rectangle", p.read(t, of[0], of[1], of[2], of[3]), 0)
	}
	same(t, "Laid", p.live.Laid(), 0)
	same(t, "all", p.whole(t), 6)
}

// Rectangles that don't lie in the document, by a place or by sums that an int has no
// room for.
func TestReadOutside(t *testing.T) {
	p := newPair(sheet(t, 40, 20))
	outside := func(x int, y int, w int, h int) {
		t.Helper()
		got, fault := p.live.Read(x, y, w, h)
		if fault != api.ErrRange || len(got) != 0 {
			t.Errorf("Read(%d, %d, %d, %d): %x, %d", x, y, w, h, got, fault)
		}
		same(t, "what is laid outside", p.read(t, x, y, w, h), 0)
	}
	for _, of := range [][4]int{
		{-1, 0, 1, 1}, {0, -1, 1, 1}, {0, 0, -1, 1}, {0, 0, 1, -1}, {0, 0, 41, 20}, {0, 0, 40, 21}, {1, 0, 40, 20}, {0, 1, 40, 20},
		{41, 0, 0, 0}, {0, 21, 0, 0}, {41, 20, -1, 0}, {40, 21, 0, -1}, {-1, -1, 0, 0}, {0, 0, 48, 32}, {40, 0, 8, 20}, {0, 20, 40, 12},
	} {
		outside(of[0], of[1], of[2], of[3])
	}
	for _, n := range []int{math.MinInt, math.MinInt + 1, -1 << 32, 1 << 31, 1 << 32, 1 << 62, math.MaxInt - 1, math.MaxInt} {
		for _, m := range []int{0, 1, 20, math.MaxInt, math.MinInt, n, -n} {
			outside(n, 0, m, 1)
			outside(m, 0, n, 1)
			outside(0, n, 1, m)
			outside(0, m, 1, n)
			outside(n, m, n, m)
		}
	}
	same(t, "Laid", p.live.Laid(), 0)
}

// All rectangles about the borders of a document's tiles, each read first.
func TestAllRectangles(t *testing.T) {
	d := newDoc(t, 34, 18, tree.Edit{Kind: 1, W: 34, H: 18})
	e := paint(1, 0, 0, 34, 18, 0)
	for i := range e.P {
		e.P[i] = i<<8 | 255
		if i >= 256 {
			e.P[i] = (i-256)<<24 | 128<<16 | 255
		}
		if i >= 512 {
			e.P[i] = (i-512)<<16 | 255
		}
	}
	p := newPair(d)
	p.do(t, e)
	rows, columns := []int{0, 1, 15, 16, 17, 18}, []int{0, 1, 15, 16, 17, 31, 32, 33, 34}
	for _, x := range columns {
		for _, to := range columns {
			for _, y := range rows {
				for _, below := range rows {
					p.set(t, p.plain.doc)
					p.read(t, x, y, to-x, below-y)
				}
			}
		}
	}
}

// Behind Set all is laid anew, be the document another one or not; what was laid is
// counted on.
func TestSet(t *testing.T) {
	p := newPair(sheet(t, 40, 40))
	same(t, "the first", p.whole(t), 9)
	for i, d := range []tree.Doc{sheet(t, 40, 40), sheet(t, 16, 16), newDoc(t, 17, 50), sheet(t, 90, 1), sheet(t, 40, 40)} {
		p.set(t, d)
		p.alike(t)
		same(t, "a document that was set", p.whole(t), []int{9, 1, 8, 6, 9}[i])
		same(t, "again", p.whole(t), 0)
		p.read(t, 0, 0, d.W+1, d.H)
	}
	same(t, "Laid", p.live.Laid(), 42)
	p.set(t, p.live.Doc())
	same(t, "a part", p.read(t, 0, 0, 20, 20), 4)
	same(t, "the rest", p.whole(t), 5)
}

// Of two live documents each has tiles of its own.
func TestTwo(t *testing.T) {
	d := sheet(t, 40, 40)
	a, b := newPair(d), newPair(d)
	same(t, "the first", a.whole(t), 9)
	a.do(t, paint(1, 0, 0, 1, 1, red))
	same(t, "the second", b.whole(t), 9)
	same(t, "the first again", a.whole(t), 1)
	b.do(t, tree.Edit{Kind: 2, ID: 1})
	same(t, "the first, when the second changed", a.whole(t), 0)
	same(t, "the second, when it changed", b.whole(t), 9)
}

// Documents as great as can be.
func TestGreatDocuments(t *testing.T) {
	for _, side := range [][2]int{{2048, 2048}, {32768, 128}, {128, 32768}} {
		w, h := side[0], side[1]
		p := newPair(newDoc(t, w, h, tree.Edit{Kind: 1, W: w, H: h}))
		p.do(t, paint(1, w-1, h-1, 1, 1, red))
		same(t, "all", p.whole(t), 16384)
		p.do(t, paint(1, w-2, h-2, 3, 3, blue), paint(1, -5, -5, 6, 6, red))
		same(t, "the last place", p.read(t, w-1, h-1, 1, 1), 1)
		same(t, "the rest", p.whole(t), 1)
		p.do(t, paint(1, 0, 17, w, 1, blue))
		same(t, "a row of tiles", p.whole(t), w/16)
		p.do(t, tree.Edit{Kind: 8, ID: 1, Map: affine.Map{one, 0, 0, one, one, 0}})
		same(t, "one column", p.read(t, w-1, 0, 1, h), h/16)
	}
}

// The longest rectangles that a Paint may have, from as far as may be.
func TestFarPaints(t *testing.T) {
	p := newPair(sheet(t, 40, 40))
	p.whole(t)
	for _, of := range []struct{ x, y, w, h, tiles int }{
		{-32768, 0, 32768, 1, 0}, {-32767, 0, 32768, 1, 1}, {0, -32768, 1, 32768, 0}, {0, -32767, 1, 32768, 1}, {32768, 32768, 32768, 1, 0},
		{32768, 0, 1, 32768, 0}, {-32768, -32768, 1, 1, 0}, {-99, 17, 32768, 1, 3}, {17, -99, 1, 32768, 3}, {39, 39, 32768, 1, 1}, {40, 0, 32768, 16, 0},
		{-1000, -1000, 2048, 2048, 9},
	} {
		p.do(t, paint(1, of.x, of.y, of.w, of.h, red))
		same(t, "a far Paint", p.whole(t), of.tiles)
	}
}
