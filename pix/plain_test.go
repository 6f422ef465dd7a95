package pix_test

import (
	"math"
	"strings"
)

// The chapter's words told again, in floats: all numbers in them are small, and
// no product lies midway between two parts of 255, so that they are exact.

// times is a * b: a b / 255 rounded to the nearest.
func times(a int, b int) int { return int(math.Round(float64(a) * float64(b) / 255)) }

// down is a quotient rounded down.
func down(n int, d int) int { return int(math.Floor(float64(n) / float64(d))) }

// without is a colour without its alpha.
func without(c int, a int) int {
	if a == 0 {
		return 0
	}
	return min(down(255*c+down(a, 2), a), 255)
}

// The chapter's table of the ways, as it stands there.
const (
	rowF = "| F | 0 | 255 | 0 | 255 | 255 - A | A | 0 | 255 - A | 0 | A | 255 - A | 255 - A |"
	rowG = "| G | 0 | 0 | 255 | 255 - S | 255 | 0 | S | 0 | 255 - S | 255 - S | S | 255 - S |"
)

// factor is what stands in a row of the table for a way, where the pixel that
// it speaks of has this alpha.
func factor(row string, way int, other int) int {
	switch word := strings.TrimSpace(strings.Split(row, "|")[way+2]); word {
	case "0":
		return 0
	case "255":
		return 255
	case "A", "S":
		return other
	case "255 - A", "255 - S":
		return 255 - other
	default:
		panic("no factor: " + word)
	}
}

func plainWay(way int, s [4]int, d [4]int) [4]int {
	if way < 0 || way > 11 {
		way = 0
	}
	f, g := factor(rowF, way, d[3]), factor(rowG, way, s[3])
	var out [4]int
	for i := range out {
		out[i] = min(times(s[i], f)+times(d[i], g), 255)
	}
	return out
}

// plainB is B of the modes: x is the ground's bare colour, y the source's.
func plainB(mode int, x int, y int) int {
	switch mode {
	case 1:
		return times(x, y)
	case 2:
		return x + y - times(x, y)
	case 3:
		return plainB(8, y, x)
	case 4:
		return int(math.Min(float64(x), float64(y)))
	case 5:
		return int(math.Max(float64(x), float64(y)))
	case 6:
		if x == 0 {
			return 0
		} else if y == 255 {
			return 255
		}
		return min(down(255*x, 255-y), 255)
	case 7:
		if x == 255 {
			return 255
		} else if y == 0 {
			return 0
		}
		return 255 - min(down(255*(255-x), y), 255)
	case 8:
		if y < 128 {
			return times(x, 2*y)
		}
		return plainB(2, x, 2*y-255)
	case 9:
		return int(math.Abs(float64(x - y)))
	case 10:
		return x + y - 2*times(x, y)
	case 11:
		xx := times(x, x)
		return min(max(xx+2*times(x, y)-2*times(xx, y), 0), 255)
	}
	return y
}

func plainBlend(mode int, s [4]int, d [4]int) [4]int {
	S, A := s[3], d[3]
	alpha := S + A - times(S, A)
	out := [4]int{3: alpha}
	for c := range 3 {
		x, y := without(d[c], A), without(s[c], S)
		sum := times(s[c], 255-A) + times(d[c], 255-S) + times(times(S, A), plainB(mode, x, y))
		out[c] = min(sum, alpha)
	}
	return out
}

// plainLevels is a number by levels.
func plainLevels(lo int, hi int, v int) int {
	switch {
	case v <= lo:
		return 0
	case v >= hi:
		return 255
	}
	return down(255*(v-lo)+down(hi-lo, 2), hi-lo)
}

// plainCurve is a number by a curve: the last pair of neighbours that v lies
// between.
func plainCurve(points []int, v int) int {
	last := len(points) - 2
	switch {
	case v < points[0]:
		return points[1]
	case v >= points[last]:
		return points[last+1]
	}
	out := 0
	for i := 0; i < last; i += 2 {
		from, to := points[i], points[i+2]
		if from <= v {
			out = points[i+1] + int(math.Trunc(float64((points[i+3]-points[i+1])*(v-from))/float64(to-from)))
		}
	}
	return out
}

// edges are numbers at which something turns.
func edges() []int {
	return []int{0, 1, 2, 63, 84, 85, 126, 127, 128, 129, 170, 200, 253, 254, 255}
}

// draw is a row of numbers that looks without a rule, alike at each run.
type draw struct{ state uint32 }

func (d *draw) next(n int) int {
	d.state = d.state*1664525 + 1013904223
	return int(d.state>>8) % n
}

// pixel is a drawn pixel: each colour is at most its alpha.
func (d *draw) pixel() [4]int {
	a := d.next(256)
	return [4]int{d.next(a + 1), d.next(a + 1), d.next(a + 1), a}
}

// isPixel tells whether four numbers are a pixel.
func isPixel(p [4]int) bool {
	for _, n := range p {
		if n < 0 || n > p[3] {
			return false
		}
	}
	return p[3] <= 255
}
