package tile_test

import (
	"maps"

	"scumble/api"
)

// draw is a row of numbers that looks without a rule, alike at each run.
type draw struct{ state uint32 }

func (d *draw) next(n int) int {
	d.state = d.state*1664525 + 1013904223
	return int(d.state>>8) % n
}

// one is a number of a list.
func one(d *draw, of []int) int { return of[d.next(len(of))] }

// plainArena is an arena that names each tile it ever gave away by a number,
// and looks through all planes for what is asked.
type plainArena struct {
	capacity int
	given    int
	planes   []*plainPlane
}

// plainPlane is a plane told pixel by pixel, and which tiles it has.
type plainPlane struct {
	arena  *plainArena
	w, h   int
	pixels map[[2]int]int
	has    map[[2]int]int
}

func (a *plainArena) plane(w int, h int) *plainPlane {
	p := &plainPlane{a, w, h, map[[2]int]int{}, map[[2]int]int{}}
	a.planes = append(a.planes, p)
	return p
}

// havers is how many planes have each tile that any of them has.
func (a *plainArena) havers() map[int]int {
	count := map[int]int{}
	for _, p := range a.planes {
		for _, name := range p.has {
			count[name]++
		}
	}
	return count
}

func (a *plainArena) free() int { return a.capacity - len(a.havers()) }

func (p *plainPlane) inside(x int, y int) bool {
	return 0 <= x && x < p.w && 0 <= y && y < p.h
}

func (p *plainPlane) set(x int, y int, v int) api.Errno {
	switch {
	case !p.inside(x, y):
		return api.ErrRange
	case v < 0 || v > 0xffffffff:
		return api.ErrValue
	case p.pixels[[2]int{x, y}] == v:
		return api.OK
	}
	at := [2]int{x >> 4, y >> 4}
	name, there := p.has[at]
	if !there || p.arena.havers()[name] > 1 {
		if p.arena.free() == 0 {
			return api.ErrArena
		}
		p.arena.given++
		p.has[at] = p.arena.given
	}
	p.pixels[[2]int{x, y}] = v
	return api.OK
}

// lies tells whether x is one of n numbers from the first one on, whatever
// these are.
func lies(x int, first int, n int) bool {
	return n > 0 && x >= first && uint64(x)-uint64(first) < uint64(n)
}

// fill sets pixel by pixel; if one can't be, all is as it was.
func (p *plainPlane) fill(x int, y int, w int, h int, v int) api.Errno {
	if v < 0 || v > 0xffffffff {
		return api.ErrValue
	}
	pixels, has := maps.Clone(p.pixels), maps.Clone(p.has)
	for j := range p.h {
		for i := range p.w {
			if !lies(i, x, w) || !lies(j, y, h) {
				continue
			}
			if e := p.set(i, j, v); e != api.OK {
				p.pixels, p.has = pixels, has
				return e
			}
		}
	}
	return api.OK
}

func (p *plainPlane) snap() *plainPlane {
	q := p.arena.plane(p.w, p.h)
	q.pixels, q.has = maps.Clone(p.pixels), maps.Clone(p.has)
	return q
}

func (p *plainPlane) drop() {
	p.pixels, p.has = map[[2]int]int{}, map[[2]int]int{}
}
