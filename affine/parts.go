package affine

import "scumble/api"

// A map's numbers have so many bits behind the point, and 1 is the unit.
const (
	behind = 16
	unit   = 1 << behind
)

// down divides by the unit. A shift rounds down, where a quotient rounds to 0.
func down(n int) int { return n >> behind }

// up divides by the unit, and rounds up.
func up(n int) int { return down(n + unit - 1) }

// near divides by the unit, and rounds to the nearest, a half up.
func near(n int) int { return down(n + unit/2) }

// share divides a map's number by its area, and rounds to the nearest. The number
// is in parts of the unit and the area in parts of its square, so the unit comes in
// twice.
func share(n int, area int) int {
	if area < 0 {
		n, area = -n, -area
	}
	n *= unit * unit
	return floor(2*n+area, 2*area)
}

// floor divides by m, which is above 0, and rounds down.
func floor(n int, m int) int {
	if n < 0 {
		return -((m - 1 - n) / m)
	}
	return n / m
}

// isUpTo tells whether a number is at most so far from 0.
func isUpTo(n int, far int) bool { return n >= -far && n <= far }

func isSide(n int) bool { return n >= 0 && n <= api.MaxSide }
