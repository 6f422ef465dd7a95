package affine_test

import (
	"testing"

	"scumble/affine"
	"scumble/api"
)

// within tells where a picture is seen outside of its box, made wider by a
// pixel.
func within(t *testing.T, p affine.Picture, m affine.Map, smooth bool) {
	t.Helper()
	back, e := m.Back()
	bx, by, bw, bh, f := m.Box(0, 0, p.W, p.H)
	if e != api.OK || f != api.OK {
		t.Fatalf("%v: %d, %d", m, e, f)
	}
	// As far around the box as anything may lie that isn't in it.
	const more = 5
	for y := by - more; y < by+bh+more; y++ {
		for x := bx - more; x < bx+bw+more; x++ {
			in := x >= bx-1 && x < bx+bw+1 && y >= by-1 && y < by+bh+1
			if n := affine.At(p, back, x, y, smooth); n != 0 && !in {
				t.Fatalf("%v of %d, %d, %v: %x is seen at (%d, %d)", m, p.W, p.H, smooth, n, x, y)
			}
		}
	}
}

// full is a picture without a pixel that is 0.
func full(w int, h int) affine.Picture {
	p := affine.Picture{W: w, H: h, P: make([]int, w*h)}
	for i := range p.P {
		p.P[i] = 1<<32 - 1
	}
	return p
}

// All maps of short numbers whose back maps are exact.
func TestSeenWithinTheBox(t *testing.T) {
	slopes := []int{-2 * one, -one, -one / 2, -one / 4, 0, one / 4, one / 2, one, 2 * one, 3 * one, 256}
	count := 0
	d := &draw{8}
	for _, a := range slopes {
		for _, b := range slopes {
			for _, c := range slopes {
				for _, e := range slopes {
					m := affine.Map{a, b, c, e, d.from(-9*one, 9*one), d.from(-9*one, 9*one)}
					if _, ok := plainBack(m); ok && isExact(m) {
						within(t, full(d.from(1, 4), d.from(1, 4)), m, false)
						count++
					}
				}
			}
		}
	}
	if count < 1000 {
		t.Error("only", count, "maps")
	}
}

func TestSmoothWithinTheBox(t *testing.T) {
	d := &draw{9}
	shifts := []int{0, 1, -1, 127, 128, 129, 255, 256, 32767, 32768, 32769, -32767, -32768, -32769, 65535}
	for _, a := range []int{one, -one} {
		for _, b := range []int{one, -one} {
			for _, e := range shifts {
				for _, f := range shifts {
					p := full(d.from(1, 4), d.from(1, 4))
					within(t, p, affine.Map{a, 0, 0, b, e, f}, true)
					within(t, p, affine.Map{0, a, b, 0, e, f}, true)
					within(t, p, affine.Map{a, 0, 0, b, e, f}, false)
				}
			}
		}
	}
}
