package affine

import (
	"scumble/api"
	"scumble/pix"
)

// lastPixel is the greatest number of a pixel.
const lastPixel = 1<<32 - 1

// The weights of neighbours have so many bits, and all of a row or a column are
// the whole together.
const (
	weightBits = 8
	whole      = 1 << weightBits
)

// Picture is pixels.
type Picture struct {
	W, H int
	P    []int
}

// See sees a picture through a map.
func See(p Picture, m Map, w int, h int, smooth bool) (Picture, api.Errno) {
	back, e := m.Back()
	if e != api.OK {
		return Picture{}, e
	}
	if !isSide(w) || !isSide(h) || w*h > api.MaxArea {
		return Picture{}, api.ErrLimit
	}
	if !p.isRight() {
		return Picture{}, api.ErrForm
	}
	seen := Picture{W: w, H: h, P: make([]int, 0, w*h)}
	for y := range h {
		for x := range w {
			seen.P = append(seen.P, At(p, back, x, y, smooth))
		}
	}
	return seen, api.OK
}

// At is the pixel of a picture that is seen at a place, by the back map.
func At(p Picture, back Map, x int, y int, smooth bool) int {
	// The middle of a pixel is whole only when it is taken twice.
	u, v := back.slope(2*x+1, 2*y+1)
	u, v = u>>1+back[4], v>>1+back[5]
	if smooth {
		return p.mixed(u-unit/2, v-unit/2)
	}
	return p.pixel(down(u), down(v))
}

func (p Picture) isRight() bool {
	if !isSide(p.W) || !isSide(p.H) || len(p.P) != p.W*p.H {
		return false
	}
	for _, n := range p.P {
		if n < 0 || n > lastPixel {
			return false
		}
	}
	return true
}

// pixel is the pixel at a place, which may lie outside: then it is 0.
func (p Picture) pixel(x int, y int) int {
	i := y*p.W + x
	// Ahead of the first row and behind the last one i is none of a pixel.
	if x < 0 || x >= p.W || i < 0 || i >= len(p.P) {
		return 0
	}
	return p.P[i]
}

// mixed is the pixel at a place and its neighbours, each the more the nearer the
// place is to it.
func (p Picture) mixed(u int, v int) int {
	x, y := down(u), down(v)
	right, below := weight(u), weight(v)
	left, above := whole-right, whole-below
	var sum [4]int
	add(&sum, p.pixel(x, y), left*above)
	add(&sum, p.pixel(x+1, y), right*above)
	add(&sum, p.pixel(x, y+1), left*below)
	add(&sum, p.pixel(x+1, y+1), right*below)
	for c := range sum {
		sum[c] = near(sum[c])
	}
	return pix.Join(sum)
}

// weight is the first bits behind the point.
func weight(n int) int { return n >> (behind - weightBits) & (whole - 1) }

// add adds a pixel's numbers so often.
func add(sum *[4]int, pixel int, often int) {
	for c, n := range pix.Split(pixel) {
		sum[c] += n * often
	}
}
