package lasso_test

import (
	"math/big"

	"scumble/api"
	"scumble/lasso"
)

// point is short for the program's word, as shapes are lists of many.
type point = lasso.Point

// far is as far as a point may be.
const far = api.MaxCoord

// draw is a row of numbers that looks without a rule, alike at each run.
type draw struct{ state uint64 }

func (d *draw) next(n int) int {
	d.state = d.state*6364136223846793005 + 1442695040888963407
	return int(d.state>>33) % n
}

// from is a number from one to another.
func (d *draw) from(least int, most int) int { return least + d.next(most-least+1) }

// shape is n points, whose numbers are from one to another.
func (d *draw) shape(n int, least int, most int) []point {
	shape := make([]point, n)
	for i := range shape {
		shape[i] = point{d.from(least, most), d.from(least, most)}
	}
	return shape
}

// times is a shape that goes round so often as another one.
func times(n int, shape ...point) []point {
	var all []point
	for range n {
		all = append(all, shape...)
	}
	return all
}

// The chapter's words told again, in fractions of any length.

func whole(n int) *big.Rat { return new(big.Rat).SetInt64(int64(n)) }

// half is n + 1/2.
func half(n int) *big.Rat { return new(big.Rat).Add(whole(n), big.NewRat(1, 2)) }

// place is where the straight line through two points has a height.
func place(a point, b point, height *big.Rat) *big.Rat {
	part := new(big.Rat).Sub(height, whole(a.Y))
	part.Quo(part, whole(b.Y-a.Y))
	part.Mul(part, whole(b.X-a.X))
	return part.Add(part, whole(a.X))
}

// met tells whether the ray from a pixel's middle to the right meets a side.
func met(a point, b point, x int, y int) bool {
	height := half(y)
	if (whole(a.Y).Cmp(height) > 0) == (whole(b.Y).Cmp(height) > 0) {
		return false
	}
	return place(a, b, height).Cmp(half(x)) > 0
}

func plainWithin(shape []point, x int, y int) bool {
	odd := false
	for i, a := range shape {
		if met(a, shape[(i+1)%len(shape)], x, y) {
			odd = !odd
		}
	}
	return odd
}

func plainMask(shape []point, w int, h int) []byte {
	var mask []byte
	for y := range h {
		for x := range w {
			b := byte(0)
			if plainWithin(shape, x, y) {
				b = 255
			}
			mask = append(mask, b)
		}
	}
	return mask
}

func plainArea(shape []point) int {
	sum := new(big.Int)
	for i, a := range shape {
		b := shape[(i+1)%len(shape)]
		sum.Add(sum, product(a.X, b.Y))
		sum.Sub(sum, product(b.X, a.Y))
	}
	return int(sum.Int64())
}

func product(a int, b int) *big.Int {
	return new(big.Int).Mul(big.NewInt(int64(a)), big.NewInt(int64(b)))
}

// plainTurn is a shape's points turned, and whether all of them are points.
func plainTurn(shape []point, by point, and point) ([]point, bool) {
	var turned []point
	for _, p := range shape {
		q := point{p.X*by.X - p.Y*by.Y + and.X, p.X*by.Y + p.Y*by.X + and.Y}
		if max(q.X, -q.X, q.Y, -q.Y) > far {
			return nil, false
		}
		turned = append(turned, q)
	}
	return turned, true
}
