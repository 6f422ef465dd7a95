package pix_test

import (
	"math"
	"strconv"
	"testing"

	"scumble/pix"
)

// A laying is Way or Blend, and how the chapter tells it.
type laying struct {
	name  string
	do    func(n int, s [4]int, d [4]int) [4]int
	plain func(n int, s [4]int, d [4]int) [4]int
}

func layings() []laying {
	return []laying{{"Way", pix.Way, plainWay}, {"Blend", pix.Blend, plainBlend}}
}

// holds asks of one laying whether it is as told, and makes a pixel.
func (l laying) holds(t *testing.T, n int, s [4]int, d [4]int) {
	t.Helper()
	got, should := l.do(n, s, d), l.plain(n, s, d)
	if got != should {
		t.Fatalf("%s(%d, %v, %v) is %v, not %v", l.name, n, s, d, got, should)
	}
	if !isPixel(got) {
		t.Fatalf("%s(%d, %v, %v) is no pixel: %v", l.name, n, s, d, got)
	}
}

// All pairs of alphas, with colours at both ends and amid.
func TestLayingsOfAllAlphas(t *testing.T) {
	for _, l := range layings() {
		for n := range 12 {
			for S := range 256 {
				for A := range 256 {
					l.holds(t, n, [4]int{S, S / 3, 0, S}, [4]int{A / 2, A, A / 5, A})
					l.holds(t, n, [4]int{S, 0, S / 2, S}, [4]int{A, 0, A / 4, A})
				}
			}
		}
	}
}

// All pairs of colours, of pixels that cover all.
func TestLayingsOfAllColours(t *testing.T) {
	for _, l := range layings() {
		for n := range 12 {
			for y := range 256 {
				for x := range 256 {
					l.holds(t, n, [4]int{y, x, 255 - y, 255}, [4]int{x, y, x, 255})
				}
			}
		}
	}
}

// All pixels with numbers at which something turns.
func TestLayingsAtEdges(t *testing.T) {
	var all [][4]int
	for _, a := range edges() {
		for _, c := range edges() {
			if c <= a {
				all = append(all, [4]int{c, a - c, c / 2, a})
			}
		}
	}
	for _, l := range layings() {
		for n := range 12 {
			for _, s := range all {
				for _, d := range all {
					l.holds(t, n, s, d)
				}
			}
		}
	}
}

func TestLayingsOfDrawnPixels(t *testing.T) {
	r := &draw{8}
	for _, l := range layings() {
		for range 300000 {
			l.holds(t, r.next(12), r.pixel(), r.pixel())
		}
	}
}

// Of other numbers Way is way 0 and Blend is mode 0.
func TestOtherNumbersAreTheFirst(t *testing.T) {
	r := &draw{9}
	for range 1000 {
		s, d := r.pixel(), r.pixel()
		for _, n := range []int{-1, 12, 13, 255, 256, 1 << 32, -12, math.MinInt, math.MaxInt} {
			same(t, "another way", pix.Way(n, s, d), [4]int{})
			same(t, "another mode", pix.Blend(n, s, d), pix.Blend(0, s, d))
			same(t, "another mode", pix.Blend(n, s, d), plainBlend(0, s, d))
		}
	}
}

func TestWaysByHand(t *testing.T) {
	s, d := [4]int{128, 0, 0, 128}, [4]int{0, 0, 255, 255}
	same(t, "the example", pix.Way(3, s, d), [4]int{128, 0, 127, 255})
	s, d = [4]int{100, 50, 0, 200}, [4]int{0, 30, 60, 60}
	for way, should := range [12][4]int{
		{},
		s,
		d,
		{100, 56, 13, 213},
		{76, 68, 60, 213},
		{24, 12, 0, 47},
		{0, 24, 47, 47},
		{76, 38, 0, 153},
		{0, 6, 13, 13},
		{24, 18, 13, 60},
		{76, 62, 47, 200},
		{76, 44, 13, 166},
	} {
		same(t, "way "+strconv.Itoa(way), pix.Way(way, s, d), should)
	}
}

// opaque are pixels that cover all, one of the source's bare colour y, one of
// the ground's x: what comes of them is B(x, y) alone.
func opaque(mode int, x int, y int) int {
	return pix.Blend(mode, [4]int{y, y, y, 255}, [4]int{x, x, x, 255})[0]
}

func TestModesByHand(t *testing.T) {
	for _, of := range []struct{ mode, x, y, should int }{
		{0, 9, 77, 77},
		{1, 128, 128, 64}, {1, 255, 7, 7}, {1, 0, 255, 0},
		{2, 128, 128, 192}, {2, 0, 7, 7}, {2, 255, 7, 255},
		{3, 127, 100, 100}, {3, 128, 100, 101}, {3, 10, 200, 16}, {3, 200, 10, 149},
		{4, 3, 200, 3}, {4, 200, 3, 3},
		{5, 3, 200, 200}, {5, 200, 3, 200},
		{6, 0, 255, 0}, {6, 0, 0, 0}, {6, 1, 255, 255}, {6, 1, 254, 255}, {6, 100, 0, 100}, {6, 10, 200, 46}, {6, 54, 200, 250}, {6, 56, 200, 255},
		{7, 255, 0, 255}, {7, 255, 255, 255}, {7, 254, 0, 0}, {7, 254, 1, 0}, {7, 100, 255, 100}, {7, 200, 100, 115}, {7, 155, 100, 0}, {7, 156, 100, 3}, {7, 0, 254, 0},
		{8, 100, 127, 100}, {8, 100, 128, 101}, {8, 200, 10, 16}, {8, 10, 200, 149}, {8, 10, 255, 255}, {8, 10, 0, 0},
		{9, 3, 200, 197}, {9, 200, 3, 197}, {9, 7, 7, 0},
		{10, 255, 255, 0}, {10, 255, 0, 255}, {10, 0, 9, 9}, {10, 128, 128, 128}, {10, 254, 254, 2},
		{11, 100, 0, 39}, {11, 100, 255, 161}, {11, 100, 128, 99}, {11, 0, 255, 0}, {11, 255, 0, 255}, {11, 255, 255, 255},
	} {
		if got := opaque(of.mode, of.x, of.y); got != of.should {
			t.Errorf("B(%d, %d) of mode %d is %d, not %d", of.x, of.y, of.mode, got, of.should)
		}
	}
}

// The modes' numbers are from 0 to 255 without being cut off but where the
// chapter says so, and those that are called so are one another's mirror.
func TestModesOfAllColours(t *testing.T) {
	for x := range 256 {
		for y := range 256 {
			for mode := range 12 {
				if b := plainB(mode, x, y); b < 0 || b > 255 {
					t.Fatalf("B(%d, %d) of mode %d is %d", x, y, mode, b)
				}
			}
			if opaque(3, x, y) != opaque(8, y, x) {
				t.Fatalf("mode 3 of %d and %d isn't mode 8 of them changed", x, y)
			}
			for _, mode := range []int{1, 2, 4, 5, 9, 10} {
				if opaque(mode, x, y) != opaque(mode, y, x) {
					t.Fatalf("mode %d of %d and %d hangs on their order", mode, x, y)
				}
			}
		}
	}
}

// Where a pixel is empty, the other one stays, by each mode.
func TestBlendWithEmptyPixels(t *testing.T) {
	r := &draw{10}
	for range 2000 {
		p := r.pixel()
		for mode := range 12 {
			same(t, "over nothing", pix.Blend(mode, p, [4]int{}), p)
			same(t, "of nothing", pix.Blend(mode, [4]int{}, p), p)
		}
	}
}

// What is as bright as it can be stays so, by the modes that don't darken it:
// no rounding takes from it or lays anything on top.
func TestWhiteOnWhite(t *testing.T) {
	for S := range 256 {
		for A := range 256 {
			whole := S + A - times(S, A)
			for _, mode := range []int{0, 1, 2, 3, 4, 5, 6, 7, 8, 11} {
				got := pix.Blend(mode, [4]int{S, S, S, S}, [4]int{A, A, A, A})
				same(t, "white on white", got, [4]int{whole, whole, whole, whole})
			}
		}
	}
}
