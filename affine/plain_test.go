package affine_test

import (
	"math/big"

	"scumble/affine"
	"scumble/api"
)

// one is 1 in a map's numbers.
const one = 65536

// draw is a row of numbers that looks without a rule, alike at each run.
type draw struct{ state uint64 }

func (d *draw) next(n int) int {
	d.state = d.state*6364136223846793005 + 1442695040888963407
	return int(d.state>>20) % n
}

// from is a number from one to another.
func (d *draw) from(least int, most int) int { return least + d.next(most-least+1) }

// of is one of these numbers.
func (d *draw) of(numbers ...int) int { return numbers[d.next(len(numbers))] }

// plane is a map whose slopes and shifts are at most so far from 0.
func (d *draw) plane(slope int, shift int) affine.Map {
	var m affine.Map
	for i := range m {
		most := slope
		if i >= 4 {
			most = shift
		}
		m[i] = d.from(-most, most)
	}
	return m
}

// picture is one of pixels whose colours are at most their alpha. Each so many
// of them is 0.
func (d *draw) picture(w int, h int, hole int) affine.Picture {
	p := affine.Picture{W: w, H: h, P: make([]int, w*h)}
	for i := range p.P {
		if d.next(hole) == 0 {
			continue
		}
		a := d.from(1, 255)
		p.P[i] = d.from(0, a)<<24 | d.from(0, a)<<16 | d.from(0, a)<<8 | a
	}
	return p
}

// The chapter's words told again, in numbers of any length.

func big1(n int) *big.Int { return big.NewInt(int64(n)) }

// sum is a x + b y + c.
func sum(a int, x int, b int, y int, c int) *big.Int {
	s := new(big.Int).Mul(big1(a), big1(x))
	s.Add(s, new(big.Int).Mul(big1(b), big1(y)))
	return s.Add(s, big1(c))
}

// floor is n / m rounded down, of an m above 0 (Div leaves a rest from 0 on).
func floor(n *big.Int, m *big.Int) *big.Int { return new(big.Int).Div(n, m) }

// nearest is n / 65536 rounded to the nearest, a half up.
func nearest(n *big.Int) *big.Int {
	return floor(new(big.Int).Add(n, big1(32768)), big1(one))
}

// mapOf is the map of these numbers, and whether they are one.
func mapOf(numbers [6]*big.Int) (affine.Map, bool) {
	var m affine.Map
	for i, n := range numbers {
		most := big1(1 << 24)
		if i >= 4 {
			most = big1(1 << 36)
		}
		if n.CmpAbs(most) > 0 {
			return affine.Map{}, false
		}
		m[i] = int(n.Int64())
	}
	return m, true
}

func plainTimes(m affine.Map, n affine.Map) (affine.Map, bool) {
	e := new(big.Int).Mul(big1(m[4]), big1(one))
	f := new(big.Int).Mul(big1(m[5]), big1(one))
	return mapOf([6]*big.Int{
		nearest(sum(m[0], n[0], m[1], n[2], 0)),
		nearest(sum(m[0], n[1], m[1], n[3], 0)),
		nearest(sum(m[2], n[0], m[3], n[2], 0)),
		nearest(sum(m[2], n[1], m[3], n[3], 0)),
		nearest(e.Add(e, sum(m[0], n[4], m[1], n[5], 0))),
		nearest(f.Add(f, sum(m[2], n[4], m[3], n[5], 0))),
	})
}

// round is n 2^32 / m, rounded to the nearest.
func round(n int, m *big.Int) *big.Int {
	top := new(big.Int).Lsh(big1(n), 32)
	low := new(big.Int).Set(m)
	if low.Sign() < 0 {
		top.Neg(top)
		low.Neg(low)
	}
	top.Lsh(top, 1)
	top.Add(top, low)
	return floor(top, low.Lsh(low, 1))
}

func area(m affine.Map) *big.Int { return sum(m[0], m[3], -m[1], m[2], 0) }

// plainBack is the back map of a map, and whether it has one.
func plainBack(m affine.Map) (affine.Map, bool) {
	d := area(m)
	if d.Sign() == 0 {
		return affine.Map{}, false
	}
	a, b, c, e := round(m[3], d), round(-m[1], d), round(-m[2], d), round(m[0], d)
	shift := func(x *big.Int, y *big.Int) *big.Int {
		s := new(big.Int).Mul(x, big1(m[4]))
		s.Add(s, new(big.Int).Mul(y, big1(m[5])))
		return nearest(s.Neg(s))
	}
	return mapOf([6]*big.Int{a, b, c, e, shift(a, b), shift(c, e)})
}

// isExact tells whether nothing is rounded in the slopes of the back map.
func isExact(m affine.Map) bool {
	d := area(m)
	for _, n := range m[:4] {
		if new(big.Int).Rem(new(big.Int).Lsh(big1(n), 32), d).Sign() != 0 {
			return false
		}
	}
	return true
}

func plainBox(m affine.Map, x int, y int, w int, h int) [4]int {
	var least, most [2]*big.Int
	for corner := range 4 {
		px, py := x+w*(corner%2), y+h*(corner/2)
		for i := range 2 {
			at := sum(m[2*i], px, m[2*i+1], py, m[4+i])
			if corner == 0 || at.Cmp(least[i]) < 0 {
				least[i] = at
			}
			if corner == 0 || at.Cmp(most[i]) > 0 {
				most[i] = at
			}
		}
	}
	var box [4]int
	for i := range 2 {
		box[i] = int(floor(least[i], big1(one)).Int64())
		up := new(big.Int).Neg(floor(new(big.Int).Neg(most[i]), big1(one)))
		box[2+i] = int(up.Int64()) - box[i]
	}
	return box
}

// pixelAt is a pixel of a picture, 0 outside.
func pixelAt(p affine.Picture, x int, y int) int {
	if x < 0 || x >= p.W || y < 0 || y >= p.H {
		return 0
	}
	return p.P[x+p.W*y]
}

// split is a number and what is left of it, rounded down.
func split(n *big.Int) (int, int) {
	whole, rest := new(big.Int).DivMod(n, big1(one), new(big.Int))
	return int(whole.Int64()), int(rest.Int64())
}

func plainAt(p affine.Picture, back affine.Map, x int, y int, smooth bool) int {
	u := floor(sum(back[0], 2*x+1, back[1], 2*y+1, 0), big1(2))
	v := floor(sum(back[2], 2*x+1, back[3], 2*y+1, 0), big1(2))
	u.Add(u, big1(back[4]))
	v.Add(v, big1(back[5]))
	if !smooth {
		i, _ := split(u)
		j, _ := split(v)
		return pixelAt(p, i, j)
	}
	i, s := split(u.Sub(u, big1(32768)))
	j, t := split(v.Sub(v, big1(32768)))
	s, t = s/256, t/256
	pixel := 0
	for shift := 0; shift < 32; shift += 8 {
		number := func(x int, y int) int { return pixelAt(p, x, y) >> shift % 256 }
		n := (256-s)*(256-t)*number(i, j) + s*(256-t)*number(i+1, j) +
			(256-s)*t*number(i, j+1) + s*t*number(i+1, j+1)
		pixel += (n + 32768) / 65536 << shift
	}
	return pixel
}

func plainSee(p affine.Picture, m affine.Map, w int, h int, smooth bool) affine.Picture {
	back, _ := plainBack(m)
	seen := affine.Picture{W: w, H: h}
	for y := range h {
		for x := range w {
			seen.P = append(seen.P, plainAt(p, back, x, y, smooth))
		}
	}
	return seen
}

func isSame(p affine.Picture, q affine.Picture) bool {
	if p.W != q.W || p.H != q.H || len(p.P) != len(q.P) {
		return false
	}
	for i, n := range p.P {
		if n != q.P[i] {
			return false
		}
	}
	return true
}

// isPixel tells whether no colour is above its alpha.
func isPixel(n int) bool {
	a := n % 256
	return n >= 0 && n>>32 == 0 && n>>24 <= a && n>>16%256 <= a && n>>8%256 <= a
}

// far are the limits of a map's numbers, one each.
func far() [6]int {
	return [6]int{api.MaxSlope, api.MaxSlope, api.MaxSlope, api.MaxSlope, api.MaxShift, api.MaxShift}
}
