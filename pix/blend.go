package pix

// The modes of blending by their numbers. Mode 0, the source's own colour, is
// that of all other numbers.
const (
	multiply = iota + 1
	screen
	overlay
	darken
	lighten
	dodge
	burn
	hardLight
	difference
	exclusion
	softLight
)

// Blend blends a source with a ground.
func Blend(mode int, s [4]int, d [4]int) [4]int {
	whole := screened(d[alpha], s[alpha])
	both := Mul(s[alpha], d[alpha])
	laid := [4]int{alpha: whole}
	for c := range alpha {
		x, y := Bare(d[c], d[alpha]), Bare(s[c], s[alpha])
		apart := Mul(s[c], top-d[alpha]) + Mul(d[c], top-s[alpha])
		laid[c] = min(apart+Mul(both, mixed(mode, x, y)), whole)
	}
	return laid
}

// mixed is what a mode makes of the ground's bare colour x and the source's y.
func mixed(mode int, x int, y int) int {
	switch mode {
	case multiply:
		return Mul(x, y)
	case screen:
		return screened(x, y)
	case overlay:
		return hardLit(y, x)
	case darken:
		return min(x, y)
	case lighten:
		return max(x, y)
	case dodge:
		return dodged(x, y)
	case burn:
		return burnt(x, y)
	case hardLight:
		return hardLit(x, y)
	case difference:
		return max(x, y) - min(x, y)
	case exclusion:
		return x + y - 2*Mul(x, y)
	case softLight:
		return softLit(x, y)
	}
	return y
}

// screened is what neither of two parts leaves out; so two alphas cover
// together.
func screened(x int, y int) int { return x + y - Mul(x, y) }

func dodged(x int, y int) int {
	switch {
	case x == 0:
		return 0
	case y == top:
		return top
	}
	return min(top*x/(top-y), top)
}

func burnt(x int, y int) int {
	switch {
	case x == top:
		return top
	case y == 0:
		return 0
	}
	return top - min(top*(top-x)/y, top)
}

func hardLit(x int, y int) int {
	if y <= top/2 {
		return Mul(x, 2*y)
	}
	return screened(x, 2*y-top)
}

func softLit(x int, y int) int {
	square := Mul(x, x)
	lit := square + 2*Mul(x, y) - 2*Mul(square, y)
	return min(max(lit, 0), top)
}
