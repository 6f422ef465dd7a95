package tile_test

import (
	"math"
	"testing"

	"scumble/api"
	"scumble/tile"
)

// newPlane is a plane of a new arena.
func newPlane(t *testing.T, capacity int, w int, h int) (*tile.Arena, *tile.Plane) {
	t.Helper()
	a := tile.New(capacity)
	if a == nil {
		t.Fatalf("no arena of %d", capacity)
	}
	return a, planeOf(t, a, w, h)
}

func planeOf(t *testing.T, a *tile.Arena, w int, h int) *tile.Plane {
	t.Helper()
	p, e := a.Plane(w, h)
	if p == nil || e != api.OK {
		t.Fatalf("Plane(%d, %d): %v, %d", w, h, p, e)
	}
	return p
}

// answers tells where a call's answer isn't this.
func answers(t *testing.T, what string, e api.Errno, should api.Errno) {
	t.Helper()
	if e != should {
		t.Errorf("%s: %d, not %d", what, e, should)
	}
}

func frees(t *testing.T, a *tile.Arena, n int) {
	t.Helper()
	if a.Free() != n {
		t.Errorf("Free is %d, not %d", a.Free(), n)
	}
}

func tiles(t *testing.T, p *tile.Plane, n int) {
	t.Helper()
	if p.Tiles() != n {
		t.Errorf("Tiles is %d, not %d", p.Tiles(), n)
	}
}

func pixel(t *testing.T, p *tile.Plane, x int, y int, v int) {
	t.Helper()
	if got := p.At(x, y); got != v {
		t.Errorf("At(%d, %d) is %d, not %d", x, y, got, v)
	}
}

func TestExample(t *testing.T) {
	a, p := newPlane(t, 2, 32, 16)
	answers(t, "Set", p.Set(0, 0, 5), api.OK)
	q := p.Snap()
	answers(t, "Set", p.Set(1, 0, 6), api.OK)
	frees(t, a, 0)
	pixel(t, q, 1, 0, 0)
	answers(t, "Set without a free tile", p.Set(20, 0, 7), api.ErrArena)
	q.Drop()
	frees(t, a, 1)
}

func TestNew(t *testing.T) {
	for _, n := range []int{0, 1, 2, 1000, 1<<20 - 1, 1 << 20} {
		a := tile.New(n)
		if a == nil {
			t.Fatalf("no arena of %d", n)
		}
		frees(t, a, n)
	}
	for _, n := range []int{-1, 1<<20 + 1, 1 << 32, math.MinInt, math.MaxInt} {
		if tile.New(n) != nil {
			t.Errorf("an arena of %d", n)
		}
	}
}

func TestPlanesOfAllSizes(t *testing.T) {
	a := tile.New(0)
	good := []int{0, 1, 16, 17, 1<<15 - 1, 1 << 15}
	for _, w := range good {
		for _, h := range good {
			p := planeOf(t, a, w, h)
			if x, y := p.Size(); x != w || y != h {
				t.Errorf("Size is %d, %d, not %d, %d", x, y, w, h)
			}
			tiles(t, p, 0)
			pixel(t, p, 0, 0, 0)
			pixel(t, p, w-1, h-1, 0)
		}
		for _, bad := range []int{-1, 1<<15 + 1, 1 << 32, math.MinInt, math.MaxInt} {
			if p, e := a.Plane(w, bad); p != nil || e != api.ErrLimit {
				t.Errorf("Plane(%d, %d): %v, %d", w, bad, p, e)
			}
			if p, e := a.Plane(bad, w); p != nil || e != api.ErrLimit {
				t.Errorf("Plane(%d, %d): %v, %d", bad, w, p, e)
			}
			if p, e := a.Plane(bad, bad); p != nil || e != api.ErrLimit {
				t.Errorf("Plane(%d, %d): %v, %d", bad, bad, p, e)
			}
		}
	}
	frees(t, a, 0)
}

// A pixel has just the value that was written, one beside it has its own.
func TestPixelsOfAllTiles(t *testing.T) {
	a, p := newPlane(t, 12, 50, 40)
	for y := range 40 {
		for x := range 50 {
			answers(t, "Set", p.Set(x, y, 1<<32-1-50*y-x), api.OK)
		}
	}
	for y := range 40 {
		for x := range 50 {
			pixel(t, p, x, y, 1<<32-1-50*y-x)
		}
	}
	tiles(t, p, 12)
	frees(t, a, 0)
}

func TestValues(t *testing.T) {
	_, p := newPlane(t, 1, 1, 1)
	for _, v := range []int{0, 1, 255, 256, 1<<31 - 1, 1 << 31, 1<<32 - 1, 0, 7} {
		answers(t, "Set", p.Set(0, 0, v), api.OK)
		pixel(t, p, 0, 0, v)
		answers(t, "Fill", p.Fill(0, 0, 1, 1, v^1), api.OK)
		pixel(t, p, 0, 0, v^1)
	}
	for _, v := range []int{-1, 1 << 32, 1<<32 + 6, math.MinInt, math.MaxInt} {
		answers(t, "Set", p.Set(0, 0, v), api.ErrValue)
		answers(t, "Fill", p.Fill(0, 0, 1, 1, v), api.ErrValue)
		pixel(t, p, 0, 0, 6)
	}
}

func TestOutside(t *testing.T) {
	a, p := newPlane(t, 4, 17, 5)
	answers(t, "Fill", p.Fill(0, 0, 17, 5, 9), api.OK)
	for _, at := range [][2]int{
		{-1, 0}, {0, -1}, {17, 0}, {0, 5}, {17, 5}, {31, 4}, {32, 0}, {16, 15}, {-16, 0}, {0, -16},
		{math.MinInt, 0}, {0, math.MinInt}, {math.MaxInt, 0}, {0, math.MaxInt}, {1 << 32, 1 << 32},
	} {
		pixel(t, p, at[0], at[1], 0)
		answers(t, "Set outside", p.Set(at[0], at[1], 1), api.ErrRange)
		pixel(t, p, at[0], at[1], 0)
	}
	tiles(t, p, 2)
	frees(t, a, 2)
	for _, size := range [][2]int{{0, 0}, {0, 5}, {5, 0}} {
		q := planeOf(t, a, size[0], size[1])
		answers(t, "Set in a plane without places", q.Set(0, 0, 1), api.ErrRange)
		answers(t, "Fill of a plane without places", q.Fill(-9, -9, 99, 99, 1), api.OK)
		pixel(t, q, 0, 0, 0)
		tiles(t, q, 0)
	}
	frees(t, a, 2)
}

func TestErrorsInTheirOrder(t *testing.T) {
	_, p := newPlane(t, 0, 16, 16)
	answers(t, "Set outside, of no value, without a tile", p.Set(16, 0, -1), api.ErrRange)
	answers(t, "Set of no value, without a tile", p.Set(0, 0, -1), api.ErrValue)
	answers(t, "Set of no value, without a tile", p.Set(15, 15, 1<<32), api.ErrValue)
	answers(t, "Set without a tile", p.Set(15, 15, 1), api.ErrArena)
	answers(t, "Fill of no value, without a tile", p.Fill(0, 0, 1, 1, 1<<32), api.ErrValue)
	answers(t, "Fill of nothing with no value", p.Fill(0, 0, 0, 0, -1), api.ErrValue)
	answers(t, "Fill outside with no value", p.Fill(16, 0, 1, 1, -1), api.ErrValue)
	answers(t, "Fill without a tile", p.Fill(15, 15, 1, 1, 1), api.ErrArena)
	answers(t, "Fill outside", p.Fill(16, 0, 1, 1, 1), api.OK)
	answers(t, "Fill of nothing", p.Fill(0, 0, 0, 1, 1), api.OK)
	pixel(t, p, 15, 15, 0)
}

// Writing what is there already takes nothing, in a plane without tiles as in
// one that shares them.
func TestTheSameValueTakesNothing(t *testing.T) {
	a, p := newPlane(t, 1, 40, 40)
	answers(t, "Set of 0", p.Set(3, 3, 0), api.OK)
	answers(t, "Fill with 0", p.Fill(0, 0, 40, 40, 0), api.OK)
	tiles(t, p, 0)
	frees(t, a, 1)
	answers(t, "Fill", p.Fill(0, 0, 4, 4, 8), api.OK)
	q := p.Snap()
	frees(t, a, 0)
	for _, x := range []*tile.Plane{p, q} {
		answers(t, "Set of the same", x.Set(3, 3, 8), api.OK)
		answers(t, "Set of 0", x.Set(4, 3, 0), api.OK)
		answers(t, "Set of 0 without a tile", x.Set(39, 39, 0), api.OK)
		answers(t, "Fill with the same", x.Fill(1, 0, 3, 4, 8), api.OK)
		answers(t, "Fill with 0", x.Fill(4, 0, 99, 99, 0), api.OK)
		answers(t, "Fill with 0", x.Fill(0, 4, 99, 99, 0), api.OK)
		tiles(t, x, 1)
		answers(t, "Set of another", x.Set(3, 3, 9), api.ErrArena)
		answers(t, "Fill with another", x.Fill(3, 3, 2, 1, 8), api.ErrArena)
		pixel(t, x, 3, 3, 8)
		pixel(t, x, 4, 3, 0)
	}
}

// A tile stays a plane's, even when all its pixels are 0 again.
func TestTilesStay(t *testing.T) {
	a, p := newPlane(t, 3, 16, 16)
	answers(t, "Set", p.Set(7, 7, 1), api.OK)
	answers(t, "Set back", p.Set(7, 7, 0), api.OK)
	tiles(t, p, 1)
	frees(t, a, 2)
	q := p.Snap()
	tiles(t, q, 1)
	frees(t, a, 2)
	answers(t, "Set in the snapshot", q.Set(0, 0, 1), api.OK)
	frees(t, a, 1)
	answers(t, "Fill with 0", q.Fill(0, 0, 16, 16, 0), api.OK)
	tiles(t, q, 1)
	frees(t, a, 1)
}

// A Fill that needs just as many tiles as are free is done; one that needs one
// more changes nothing, wherever the tiles lie that it needs none for.
func TestFillIsWholeOrNothing(t *testing.T) {
	for alone := range 9 {
		a, p := newPlane(t, 9, 48, 48)
		answers(t, "Set", p.Set(alone%3*16, alone/3*16, 5), api.OK)
		answers(t, "Fill", p.Fill(0, 0, 48, 48, 6), api.OK)
		frees(t, a, 0)
		p.Drop()
		answers(t, "Set", p.Set(alone%3*16, alone/3*16, 5), api.OK)
		other := planeOf(t, a, 1, 1)
		answers(t, "Set", other.Set(0, 0, 1), api.OK)
		answers(t, "Fill of too much", p.Fill(0, 0, 48, 48, 6), api.ErrArena)
		frees(t, a, 7)
		tiles(t, p, 1)
		for y := range 48 {
			for x := range 48 {
				if v := p.At(x, y); v != 0 && (v != 5 || x != alone%3*16 || y != alone/3*16) {
					t.Fatalf("At(%d, %d) is %d", x, y, v)
				}
			}
		}
		other.Drop()
		answers(t, "Fill again", p.Fill(0, 0, 48, 48, 6), api.OK)
		tiles(t, p, 9)
	}
}

// Of shared tiles a Fill needs one each, of a plane's own none.
func TestFillOfSharedTiles(t *testing.T) {
	a, p := newPlane(t, 6, 64, 16)
	answers(t, "Fill", p.Fill(0, 0, 64, 16, 1), api.OK)
	q := p.Snap()
	frees(t, a, 2)
	answers(t, "Fill of too much", q.Fill(0, 0, 33, 1, 2), api.ErrArena)
	pixel(t, q, 0, 0, 1)
	frees(t, a, 2)
	answers(t, "Fill of two tiles", q.Fill(15, 0, 2, 1, 2), api.OK)
	frees(t, a, 0)
	answers(t, "Fill of one's own tiles", q.Fill(0, 0, 32, 16, 3), api.OK)
	answers(t, "Fill of what p has alone now", p.Fill(0, 0, 32, 16, 4), api.OK)
	answers(t, "Fill of what is shared", p.Fill(0, 0, 33, 16, 4), api.ErrArena)
	for x := range 64 {
		ours, theirs := 1, 1
		if x < 32 {
			ours, theirs = 4, 3
		}
		pixel(t, p, x, 9, ours)
		pixel(t, q, x, 9, theirs)
	}
}

// Of many snapshots each has its own pixels; the last one that has a tile
// writes it without another.
func TestSnapshotsOfSnapshots(t *testing.T) {
	a, p := newPlane(t, 20, 16, 16)
	answers(t, "Set", p.Set(0, 0, 100), api.OK)
	planes := []*tile.Plane{p}
	for n := range 19 {
		q := planes[n/2].Snap()
		planes = append(planes, q)
		if w, h := q.Size(); w != 16 || h != 16 {
			t.Errorf("Size is %d, %d", w, h)
		}
		tiles(t, q, 1)
	}
	frees(t, a, 19)
	for n, q := range planes {
		answers(t, "Set", q.Set(0, 0, n), api.OK)
		frees(t, a, max(18-n, 0))
	}
	for n, q := range planes {
		pixel(t, q, 0, 0, n)
	}
	for n, q := range planes {
		q.Drop()
		frees(t, a, n+1)
		pixel(t, q, 0, 0, 0)
	}
}

func TestDrop(t *testing.T) {
	a, p := newPlane(t, 2, 20, 20)
	p.Drop()
	frees(t, a, 2)
	answers(t, "Set", p.Set(0, 0, 1), api.OK)
	answers(t, "Set", p.Set(16, 0, 2), api.OK)
	q := p.Snap()
	p.Drop()
	p.Drop()
	frees(t, a, 0)
	tiles(t, p, 0)
	tiles(t, q, 2)
	pixel(t, p, 0, 0, 0)
	pixel(t, q, 0, 0, 1)
	pixel(t, q, 16, 0, 2)
	if w, h := p.Size(); w != 20 || h != 20 {
		t.Errorf("Size of a dropped plane is %d, %d", w, h)
	}
	answers(t, "Set of what is no longer shared", q.Set(0, 0, 3), api.OK)
	answers(t, "Set in a dropped plane", p.Set(0, 0, 4), api.ErrArena)
	r := p.Snap()
	tiles(t, r, 0)
	q.Drop()
	frees(t, a, 2)
	answers(t, "Set in a dropped plane", p.Set(19, 19, 5), api.OK)
	pixel(t, p, 19, 19, 5)
	pixel(t, r, 19, 19, 0)
	frees(t, a, 1)
	r.Drop()
	frees(t, a, 1)
}

// Arenas know nothing of one another, planes of one arena share its tiles.
func TestSeveralArenas(t *testing.T) {
	a, p := newPlane(t, 1, 16, 16)
	b, q := newPlane(t, 1, 16, 16)
	answers(t, "Set", p.Set(0, 0, 1), api.OK)
	frees(t, b, 1)
	answers(t, "Set", q.Set(0, 0, 2), api.OK)
	r := planeOf(t, a, 16, 16)
	answers(t, "Set", r.Set(0, 0, 3), api.ErrArena)
	q.Drop()
	answers(t, "Set", r.Set(0, 0, 3), api.ErrArena)
	p.Drop()
	frees(t, a, 1)
	answers(t, "Set", r.Set(0, 0, 3), api.OK)
	pixel(t, p, 0, 0, 0)
}

// The greatest plane has more tiles than any arena.
func TestTheGreatestPlane(t *testing.T) {
	const last = 1<<15 - 1
	a, p := newPlane(t, 1<<20, last+1, last+1)
	for n, at := range [][2]int{{0, 0}, {last, 0}, {0, last}, {last, last}} {
		answers(t, "Set", p.Set(at[0], at[1], n+1), api.OK)
		pixel(t, p, at[0], at[1], n+1)
		tiles(t, p, n+1)
	}
	answers(t, "Fill of all", p.Fill(math.MinInt, math.MinInt, math.MaxInt, math.MaxInt, 1), api.OK)
	tiles(t, p, 4)
	pixel(t, p, last, last, 4)
	answers(t, "Fill of all", p.Fill(0, 0, math.MaxInt, math.MaxInt, 1), api.ErrArena)
	frees(t, a, 1<<20-4)
	pixel(t, p, last, last, 4)
	q := p.Snap()
	answers(t, "Fill of all with 0", p.Fill(0, 0, math.MaxInt, math.MaxInt, 0), api.OK)
	tiles(t, p, 4)
	frees(t, a, 1<<20-8)
	pixel(t, p, last, last, 0)
	pixel(t, q, last, last, 4)
	answers(t, "Fill of a column", p.Fill(100, 0, 1, last+1, 7), api.OK)
	tiles(t, p, 4+2048)
	pixel(t, p, 100, last, 7)
	pixel(t, p, 101, last, 0)
}
