package pix_test

import (
	"math"
	"testing"

	"scumble/pix"
)

func same[T comparable](t *testing.T, what string, got T, should T) {
	t.Helper()
	if got != should {
		t.Errorf("%s: %v, not %v", what, got, should)
	}
}

func TestMulOfAllNumbers(t *testing.T) {
	for a := range 256 {
		for b := range 256 {
			got := pix.Mul(a, b)
			if got != times(a, b) || 255*got < a*b-127 || 255*got > a*b+127 {
				t.Fatalf("Mul(%d, %d) is %d, not %d", a, b, got, times(a, b))
			}
		}
	}
	same(t, "128 * 128", pix.Mul(128, 128), 64)
	same(t, "255 * 7", pix.Mul(255, 7), 7)
	same(t, "1 * 127", pix.Mul(1, 127), 0)
	same(t, "1 * 128", pix.Mul(1, 128), 1)
}

func TestBareOfAllNumbers(t *testing.T) {
	for c := range 256 {
		for a := range 256 {
			if got := pix.Bare(c, a); got != without(c, a) {
				t.Fatalf("Bare(%d, %d) is %d, not %d", c, a, got, without(c, a))
			}
		}
	}
	same(t, "of no alpha", pix.Bare(200, 0), 0)
	same(t, "of the whole alpha", pix.Bare(200, 255), 200)
	same(t, "above its alpha", pix.Bare(200, 100), 255)
	same(t, "at its alpha", pix.Bare(100, 100), 255)
	same(t, "half rounded up", pix.Bare(1, 2), 128)
	same(t, "half of an odd alpha", pix.Bare(1, 3), 85)
	same(t, "below the half", pix.Bare(2, 7), 73)
}

func TestSplitAndJoin(t *testing.T) {
	for _, of := range []struct {
		number int
		pixel  [4]int
	}{
		{0, [4]int{}},
		{0xff, [4]int{0, 0, 0, 255}},
		{0xff00, [4]int{0, 0, 255, 0}},
		{0xff0000, [4]int{0, 255, 0, 0}},
		{0xff000000, [4]int{255, 0, 0, 0}},
		{0x01020304, [4]int{1, 2, 3, 4}},
		{0x80c0e0f0, [4]int{128, 192, 224, 240}},
		{0xffffffff, [4]int{255, 255, 255, 255}},
	} {
		same(t, "Split", pix.Split(of.number), of.pixel)
		same(t, "Join", pix.Join(of.pixel), of.number)
	}
	d := &draw{1}
	for range 10000 {
		p := [4]int{d.next(256), d.next(256), d.next(256), d.next(256)}
		number := 1<<24*p[0] + 1<<16*p[1] + 1<<8*p[2] + p[3]
		same(t, "Join", pix.Join(p), number)
		same(t, "Split", pix.Split(number), p)
	}
}

// Fade takes any four numbers, each of which stands for itself.
func TestFade(t *testing.T) {
	for a := range 256 {
		for n := range 256 {
			p := [4]int{n, 255 - n, n * 7 % 256, n * 11 % 256}
			should := [4]int{times(p[0], a), times(p[1], a), times(p[2], a), times(p[3], a)}
			if got := pix.Fade(p, a); got != should {
				t.Fatalf("Fade(%v, %d) is %v, not %v", p, a, got, should)
			}
		}
	}
	same(t, "by the half", pix.Fade([4]int{255, 128, 0, 255}, 128), [4]int{128, 64, 0, 128})
	same(t, "by nothing", pix.Fade([4]int{255, 128, 7, 255}, 0), [4]int{})
	same(t, "by the whole", pix.Fade([4]int{255, 128, 7, 1}, 255), [4]int{255, 128, 7, 1})
}

func TestUnmultiply(t *testing.T) {
	for a := range 256 {
		for c := range a + 1 {
			p := [4]int{c, a - c, a, a}
			should := [4]int{without(c, a), without(a-c, a), without(a, a), a}
			if got := pix.Unmultiply(p); got != should {
				t.Fatalf("Unmultiply(%v) is %v, not %v", p, got, should)
			}
		}
	}
	same(t, "of no alpha", pix.Unmultiply([4]int{}), [4]int{})
	same(t, "of half an alpha", pix.Unmultiply([4]int{64, 128, 1, 128}), [4]int{128, 255, 2, 128})
}

// Bare colours may be above their alpha; what comes of them is a pixel.
func TestMultiply(t *testing.T) {
	for a := range 256 {
		for c := range 256 {
			p := [4]int{c, 255 - c, c * 7 % 256, a}
			should := [4]int{times(p[0], a), times(p[1], a), times(p[2], a), a}
			got := pix.Multiply(p)
			if got != should || !isPixel(got) {
				t.Fatalf("Multiply(%v) is %v, not %v", p, got, should)
			}
		}
	}
	same(t, "of no alpha", pix.Multiply([4]int{255, 1, 128, 0}), [4]int{})
	same(t, "above alpha", pix.Multiply([4]int{255, 200, 1, 128}), [4]int{128, 100, 1, 128})
}

// What is bare and multiplied again is the same pixel.
func TestMultiplyTakesUnmultiplyBack(t *testing.T) {
	for a := range 256 {
		for c := range a + 1 {
			p := [4]int{c, a, 0, a}
			same(t, "there and back", pix.Multiply(pix.Unmultiply(p)), p)
		}
	}
}

// Of numbers that are none nothing is promised but that the calls end.
func TestCallsEndAtAllNumbers(t *testing.T) {
	far := []int{math.MinInt, math.MinInt + 1, -1 << 32, -256, -2, -1, 0, 1, 255, 256, 1 << 32, math.MaxInt}
	short, _ := pix.Table(2, nil)
	tables := [][]int{nil, {}, {5}, short[:255], short, make([]int, 300), {math.MinInt, math.MaxInt}}
	for _, a := range far {
		pix.Split(a)
		for _, b := range far {
			pix.Mul(a, b)
			pix.Bare(a, b)
			p, q := [4]int{a, b, a, b}, [4]int{b, b, a, a}
			pix.Join(p)
			pix.Fade(p, b)
			pix.Multiply(p)
			pix.Unmultiply(p)
			for _, table := range tables {
				pix.Map(table, p)
				pix.Map(table, q)
			}
			for _, n := range append(far, 2, 3, 4, 5, 6, 7, 8, 9, 10, 11, 12) {
				pix.Way(n, p, q)
				pix.Blend(n, p, q)
				pix.Blend(n, q, p)
				pix.Table(n, []int{a, b})
				pix.Table(n, []int{b})
			}
		}
	}
}
