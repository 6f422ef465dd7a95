package lasso

// Points stand here as numbers of two whole floats. No number that comes of
// points reaches 2^53, not even the sum of all products that a shape has: so all of
// them are exact.

// number is the point as a number.
func (p Point) number() complex128 { return complex(float64(p.X), float64(p.Y)) }

// pointOf is the point that a number is.
func pointOf(z complex128) Point { return Point{int(real(z)), int(imag(z))} }

// turnedBack is a number whose product turns as far as the one of z, but the
// other way round.
func turnedBack(z complex128) complex128 { return complex(real(z), -imag(z)) }

// across is X Y' - X' Y of two numbers. Its sign tells on which side of the line
// from 0 through a the number z lies.
func across(a complex128, z complex128) float64 { return imag(turnedBack(a) * z) }

// side is the straight line between two points.
type side struct{ from, to complex128 }

// sidesOf are a shape's sides. The last point is joined with the first.
func sidesOf(shape []Point) []side {
	sides := make([]side, len(shape))
	from := shape[len(shape)-1].number()
	for i, p := range shape {
		to := p.number()
		sides[i] = side{from, to}
		from = to
	}
	return sides
}

// reach is how many pixels, from the first one on to the right, send rays that
// meet the side.
func (s side) reach(first Point) int {
	// In halves, so that the middle of a pixel is whole too.
	middle := 2*first.number() + (1 + 1i)
	from, to := 2*s.from-middle, 2*s.to-middle
	if imag(from) > imag(to) {
		from, to = to, from
	}
	if imag(from) > 0 || imag(to) < 0 {
		return 0
	}
	// The product is above 0 as long as the side lies to the right of the middle;
	// with each pixel further, which is two halves, it falls by a step.
	ahead, step := int(across(from, to)), int(2*imag(to-from))
	return max((ahead+step-1)/step, 0)
}
