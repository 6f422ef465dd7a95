package tile_test

import (
	"math"
	"strconv"
	"testing"

	"scumble/api"
	"scumble/tile"
)

// both are an arena and the plain one, with planes that should be alike.
type both struct {
	arena  *tile.Arena
	plain  *plainArena
	planes []*tile.Plane
}

func newBoth(capacity int) *both {
	return &both{arena: tile.New(capacity), plain: &plainArena{capacity: capacity}}
}

// step is one call: what the arena answers, and what the plain one does.
type step struct {
	name string
	do   func(b *both) (api.Errno, api.Errno)
}

func plane(w int, h int) step {
	return step{"Plane" + words(w, h), func(b *both) (api.Errno, api.Errno) {
		p, e := b.arena.Plane(w, h)
		b.planes = append(b.planes, p)
		b.plain.plane(w, h)
		return e, api.OK
	}}
}

// The calls of a plane tell which one it is; where there is none yet nothing
// is done.

func on(name string, which int, do func(p *tile.Plane, q *plainPlane) (api.Errno, api.Errno)) step {
	return step{name + " of" + words(which), func(b *both) (api.Errno, api.Errno) {
		if which >= len(b.planes) {
			return api.OK, api.OK
		}
		return do(b.planes[which], b.plain.planes[which])
	}}
}

func set(which int, x int, y int, v int) step {
	return on("Set"+words(x, y, v), which, func(p *tile.Plane, q *plainPlane) (api.Errno, api.Errno) {
		return p.Set(x, y, v), q.set(x, y, v)
	})
}

func fill(which int, x int, y int, w int, h int, v int) step {
	return on("Fill"+words(x, y, w, h, v), which, func(p *tile.Plane, q *plainPlane) (api.Errno, api.Errno) {
		return p.Fill(x, y, w, h, v), q.fill(x, y, w, h, v)
	})
}

func drop(which int) step {
	return on("Drop", which, func(p *tile.Plane, q *plainPlane) (api.Errno, api.Errno) {
		p.Drop()
		q.drop()
		return api.OK, api.OK
	})
}

func snap(which int) step {
	return step{"Snap of" + words(which), func(b *both) (api.Errno, api.Errno) {
		if which < len(b.planes) {
			b.planes = append(b.planes, b.planes[which].Snap())
			b.plain.planes[which].snap()
		}
		return api.OK, api.OK
	}}
}

func words(numbers ...int) string {
	text := ""
	for _, n := range numbers {
		text += " " + strconv.Itoa(n)
	}
	return text
}

// alike tells the first thing in which an arena and its planes aren't as the
// plain ones; nothing, if there is none.
func (b *both) alike() string {
	if got, should := b.arena.Free(), b.plain.free(); got != should {
		return "Free is" + words(got) + ", not" + words(should)
	}
	for n, p := range b.planes {
		q := b.plain.planes[n]
		if w, h := p.Size(); w != q.w || h != q.h {
			return "Size of" + words(n) + " is" + words(w, h)
		}
		if got, should := p.Tiles(), len(q.has); got != should {
			return "Tiles of" + words(n) + " is" + words(got) + ", not" + words(should)
		}
		for y := -1; y <= q.h; y++ {
			for x := -1; x <= q.w; x++ {
				if got, should := p.At(x, y), q.pixels[[2]int{x, y}]; got != should {
					return "At" + words(x, y) + " of" + words(n) + " is" + words(got) + ", not" + words(should)
				}
			}
		}
	}
	return ""
}

// holds runs a script, and all that can be asked after each step.
func holds(t *testing.T, capacity int, script []step) {
	t.Helper()
	b := newBoth(capacity)
	for i, s := range script {
		got, should := s.do(b)
		fault := b.alike()
		if got != should {
			fault = "answered" + words(int(got)) + ", not" + words(int(should))
		}
		if fault != "" {
			for _, done := range script[:i+1] {
				t.Log(done.name)
			}
			t.Fatalf("%s, in an arena of %d", fault, capacity)
		}
	}
}

// few are the calls of which every script is tried.
func few() []step {
	return []step{
		set(0, 0, 0, 1), set(0, 16, 0, 2), set(0, 0, 0, 0), set(1, 0, 0, 1), set(1, 0, 0, 3),
		fill(0, 0, 0, 17, 1, 3), fill(1, 0, 0, 17, 1, 0), fill(2, 0, 0, 17, 1, 2),
		snap(0), snap(1), drop(0), drop(1),
	}
}

// Every script of four calls behind some writing, in arenas that hold enough
// and less.
func TestScriptsAgainstThePlainArena(t *testing.T) {
	all := few()
	count := len(all) * len(all) * len(all) * len(all)
	for capacity := range 4 {
		for n := range count {
			script := []step{plane(17, 1), set(0, 0, 0, 1)}
			for rest := n; len(script) < 6; rest /= len(all) {
				script = append(script, all[rest%len(all)])
			}
			holds(t, capacity, script)
		}
	}
}

// drawn is a call that may be any, in a row of its own.
func drawn(d *draw) step {
	edges := []int{
		0, 0, 0, 1, 2, 14, 15, 16, 17, 30, 31, 32, 33, 40, 47, 48, 49, -1, -15, -16, -17, -40,
		math.MaxInt, math.MaxInt - 15, math.MinInt, math.MinInt + 1, math.MinInt + 20, 1 << 15, 1 << 32, -1 << 32,
	}
	values := []int{0, 0, 0, 1, 1, 2, 1<<32 - 1, 1 << 31, 1 << 32, -1, math.MinInt}
	which := d.next(5)
	switch d.next(9) {
	case 0:
		return snap(which)
	case 1:
		return drop(which)
	case 2, 3, 4:
		return set(which, d.next(42)-1, d.next(36)-1, one(d, values))
	case 5:
		return set(which, one(d, edges), one(d, edges), one(d, values))
	case 6:
		return fill(which, d.next(40), d.next(34), d.next(20), d.next(20), one(d, values))
	default:
		return fill(which, one(d, edges), one(d, edges), one(d, edges), one(d, edges), one(d, values))
	}
}

func TestDrawnScriptsAgainstThePlainArena(t *testing.T) {
	sides := []int{0, 1, 2, 15, 16, 17, 31, 32, 33, 40}
	for seed := range 250 {
		d := &draw{uint32(seed)}
		script := []step{plane(one(d, sides), one(d, sides)), plane(one(d, sides), one(d, sides))}
		for range 30 {
			script = append(script, drawn(d))
		}
		holds(t, d.next(16), script)
	}
}

// All rectangles about the borders of a plane and of its tiles, on a plane
// with nothing and on one with something in each tile.
func TestAllRectangles(t *testing.T) {
	sides := [][2]int{
		{0, 0}, {0, 1}, {0, 17}, {0, 18}, {0, 40}, {1, 15}, {1, 16}, {15, 1}, {15, 2}, {16, 1}, {16, 2}, {17, 1}, {18, 1},
		{-1, 1}, {-1, 2}, {-1, 17}, {-1, 18}, {-1, 20}, {-16, 17}, {-17, 16}, {-17, 34}, {-20, 40},
		{0, -1}, {5, -3}, {3, 0}, {math.MinInt, -1}, {math.MinInt, math.MinInt}, {math.MinInt, 1}, {math.MinInt, math.MaxInt},
		{math.MinInt + 10, math.MaxInt}, {-1, math.MaxInt}, {0, math.MaxInt}, {1, math.MaxInt}, {16, math.MaxInt}, {17, math.MaxInt},
		{math.MaxInt, 1}, {math.MaxInt, math.MaxInt}, {math.MaxInt, math.MinInt}, {1, math.MinInt},
	}
	for _, a := range sides {
		for _, b := range sides {
			holds(t, 4, []step{plane(18, 17), fill(0, a[0], b[0], a[1], b[1], 9), fill(0, a[0], b[0], a[1], b[1], 0)})
			holds(t, 4, []step{
				plane(18, 17), set(0, 15, 15, 5), set(0, 16, 15, 6), set(0, 15, 16, 7), set(0, 17, 16, 8),
				fill(0, a[0], b[0], a[1], b[1], 0), fill(0, a[0], b[0], a[1], b[1], 7),
			})
		}
	}
}
