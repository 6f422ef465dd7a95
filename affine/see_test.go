package affine_test

import (
	"math"
	"slices"
	"testing"

	"scumble/affine"
	"scumble/api"
)

// sees tells where See or At answers otherwise than the chapter's words.
func sees(t *testing.T, p affine.Picture, m affine.Map, w int, h int, smooth bool) affine.Picture {
	t.Helper()
	should := plainSee(p, m, w, h, smooth)
	got, e := affine.See(p, m, w, h, smooth)
	if e != api.OK || !isSame(got, should) {
		t.Fatalf("See(%v, %v, %d, %d, %v): %v, %d, not %v", p, m, w, h, smooth, got, e, should)
	}
	for _, n := range got.P {
		if !isPixel(n) {
			t.Fatalf("See(%v, %v, %d, %d, %v): %x is no pixel", p, m, w, h, smooth, n)
		}
	}
	return got
}

func TestSeeExample(t *testing.T) {
	p := affine.Picture{W: 2, H: 2, P: []int{0xff0000ff, 0x00ff00ff, 0x0000ffff, 0x80}}
	should := affine.Picture{W: 5, H: 3, P: []int{
		0, 0, 0xff0000ff, 0x00ff00ff, 0,
		0, 0, 0x0000ffff, 0x80, 0,
		0, 0, 0, 0, 0,
	}}
	for _, smooth := range []bool{false, true} {
		got, e := affine.See(p, affine.Map{65536, 0, 0, 65536, 131072, 0}, 5, 3, smooth)
		same(t, "See", e, api.OK)
		same(t, "two to the right", isSame(got, should), true)
	}
}

// Each pixel of four in one, half of two, and amid them.
func TestSmooth(t *testing.T) {
	p := affine.Picture{W: 2, H: 1, P: []int{0xff0000ff, 0x00ff00ff}}
	for _, of := range []struct {
		m     affine.Map
		first int
	}{
		{affine.Map{one, 0, 0, one, 0, 0}, 0xff0000ff},
		{affine.Map{one, 0, 0, one, -one / 2, 0}, 0x808000ff},
		{affine.Map{one, 0, 0, one, -one / 4, 0}, 0xbf4000ff},
		{affine.Map{one, 0, 0, one, 0, one / 2}, 0x80000080},
		{affine.Map{one, 0, 0, one, one / 2, one / 2}, 0x40000040},
		{affine.Map{one, 0, 0, one, -255, 0}, 0xff0000ff},
		{affine.Map{one, 0, 0, one, -256, 0}, 0xfe0100ff},
	} {
		got, e := affine.See(p, of.m, 1, 1, true)
		same(t, "See", e, api.OK)
		if len(got.P) != 1 || got.P[0] != of.first {
			t.Errorf("%v: %x, not %x", of.m, got.P, of.first)
		}
	}
}

func TestDrawnPictures(t *testing.T) {
	d := &draw{4}
	for range 3000 {
		p := d.picture(d.from(0, 7), d.from(0, 7), 5)
		for _, m := range []affine.Map{
			d.plane(3*one, 6*one), d.plane(one, 4*one), d.plane(9*one, 50*one),
			{one, 0, 0, one, d.from(-9*one, 9*one), d.from(-9, 9) * one},
			{d.of(-one, one), 0, 0, d.of(-one, one), d.from(-9, 9) * one / 2, d.from(-9, 9) * one / 4},
			{0, d.of(-one, one), d.of(-one, one), 0, d.from(-9, 9) * one / 2, d.from(-9, 9) * one / 4},
		} {
			if _, ok := plainBack(m); ok {
				sees(t, p, m, d.from(0, 9), d.from(0, 9), d.next(2) == 1)
			}
		}
	}
}

// At the ends of what a map and a place may be, in and outside of a See.
func TestAt(t *testing.T) {
	d := &draw{5}
	places := []int{-api.MaxSide, 1 - api.MaxSide, -1, 0, 1, api.MaxSide - 1, api.MaxSide}
	for range 300 {
		p := d.picture(d.from(1, 5), d.from(1, 5), 9)
		for _, back := range []affine.Map{
			d.plane(3*one, 6*one), d.plane(9, 3*one), d.plane(1<<24, 1<<36),
			{d.of(1, -1, 0), d.of(1, -1, 0), d.of(1, -1, 0), d.of(1, -1, 0), d.of(one, 0, 1, -1), d.of(one, 0, 1, -1)},
			{1 << 24, 1 << 24, -1 << 24, 1 << 24, -1 << 36, 1 << 36},
		} {
			for _, x := range append(places, d.from(-9, 9)) {
				for _, y := range append(places, d.from(-9, 9)) {
					for _, smooth := range []bool{false, true} {
						got, should := affine.At(p, back, x, y, smooth), plainAt(p, back, x, y, smooth)
						if got != should {
							t.Fatalf("At(%v, %v, %d, %d, %v): %x, not %x", p, back, x, y, smooth, got, should)
						}
					}
				}
			}
		}
	}
}

// Far away, where the map's shift brings the picture to the place.
func TestAtFarAway(t *testing.T) {
	d := &draw{6}
	p := d.picture(9, 9, 100)
	for range 3000 {
		back := d.plane(5*one, 0)
		x, y := d.from(-api.MaxSide, api.MaxSide), d.from(-api.MaxSide, api.MaxSide)
		back[4] = d.from(-one, 9*one) - back[0]*x - back[1]*y
		back[5] = d.from(-one, 9*one) - back[2]*x - back[3]*y
		for _, smooth := range []bool{false, true} {
			for i := x - 1; i <= x+1; i++ {
				same(t, "At", affine.At(p, back, i, y, smooth), plainAt(p, back, i, y, smooth))
			}
		}
	}
}

// Of any numbers from 0 to 2^32 - 1, those with a colour above their alpha too.
func TestAllNumbersOfPixels(t *testing.T) {
	d := &draw{7}
	for range 500 {
		p := affine.Picture{W: 3, H: 2}
		for range 6 {
			p.P = append(p.P, d.of(0, 1<<32-1, 0xff000000, 0xff0000, 0xff00, 0xff, d.from(0, 1<<32-1)))
		}
		m := affine.Map{d.from(one/2, one), d.from(-99, 99), d.from(-99, 99), d.from(one/2, one), d.from(-one, one), d.from(-one, one)}
		for _, smooth := range []bool{false, true} {
			got, e := affine.See(p, m, 4, 4, smooth)
			same(t, "See", e, api.OK)
			same(t, "as told", isSame(got, plainSee(p, m, 4, 4, smooth)), true)
		}
	}
}

// isRefused tells where See answers otherwise than this error, or with
// something beside it.
func isRefused(t *testing.T, p affine.Picture, m affine.Map, w int, h int, should api.Errno) {
	t.Helper()
	for _, smooth := range []bool{false, true} {
		got, e := affine.See(p, m, w, h, smooth)
		same(t, "See", e, should)
		same(t, "See beside an error", isSame(got, affine.Picture{}), true)
	}
}

// The errors in their order, each with all those that come behind it.
func TestSeeOrderOfErrors(t *testing.T) {
	no := affine.Picture{W: 1, H: 1}
	for _, m := range noMaps() {
		isRefused(t, no, m, -1, -1, api.ErrLimit)
		isRefused(t, affine.Picture{}, m, 1, 1, api.ErrLimit)
	}
	for _, m := range []affine.Map{{}, {one, one, one, one, 0, 0}, {1, 0, 0, 1, 0, 0}, {one / 2, 0, 0, one, api.MaxShift/2 + 1, 0}} {
		isRefused(t, no, m, -1, -1, api.ErrFlat)
		isRefused(t, no, m, 1, 1, api.ErrFlat)
		isRefused(t, affine.Picture{}, m, api.MaxSide, api.MaxSide, api.ErrFlat)
		isRefused(t, affine.Picture{}, m, 1, 1, api.ErrFlat)
	}
	isRefused(t, no, affine.One(), -1, 1, api.ErrLimit)
	isRefused(t, no, affine.One(), api.MaxSide, api.MaxSide, api.ErrLimit)
	isRefused(t, no, affine.One(), 1, 1, api.ErrForm)
}

func TestSeeLimits(t *testing.T) {
	p := affine.Picture{W: 1, H: 1, P: []int{5}}
	for _, n := range append([]int{-1, api.MaxSide + 1, math.MinInt, 1 << 32}, ends...) {
		isRefused(t, p, affine.One(), n, 1, api.ErrLimit)
		isRefused(t, p, affine.One(), 1, n, api.ErrLimit)
		isRefused(t, p, affine.One(), 0, n, api.ErrLimit)
		isRefused(t, p, affine.One(), n, n, api.ErrLimit)
	}
	isRefused(t, p, affine.One(), 2049, 2048, api.ErrLimit)
	isRefused(t, p, affine.One(), api.MaxSide, 129, api.ErrLimit)
	isRefused(t, p, affine.One(), 129, api.MaxSide, api.ErrLimit)
	for _, of := range [][2]int{{0, 0}, {0, 5}, {5, 0}, {api.MaxSide, 0}, {0, api.MaxSide}, {1, api.MaxSide}, {api.MaxSide, 128}} {
		got, e := affine.See(p, affine.One(), of[0], of[1], false)
		same(t, "See", e, api.OK)
		same(t, "sides", [3]int{got.W, got.H, len(got.P)}, [3]int{of[0], of[1], of[0] * of[1]})
		for i, n := range got.P {
			if (n == 5) != (i == 0) || n != 0 && n != 5 {
				t.Fatal("pixel", i, "is", n)
			}
		}
	}
}

func TestWhatIsNoPicture(t *testing.T) {
	for _, p := range []affine.Picture{
		{W: 1, H: 1}, {W: 1, H: 1, P: []int{}}, {W: 1, H: 1, P: []int{1, 2}}, {P: []int{1}}, {W: 2, H: 2, P: []int{1, 2, 3}},
		{W: 2, H: 2, P: make([]int, 5)}, {W: -1, H: -1, P: []int{1}}, {W: -1, H: 0}, {W: 0, H: -1}, {W: -2, H: 2, P: make([]int, 4)},
		{W: api.MaxSide + 1, H: 0}, {W: 0, H: api.MaxSide + 1}, {W: api.MaxSide + 1, H: 1, P: make([]int, api.MaxSide+1)},
		{W: 1, H: api.MaxSide + 1, P: make([]int, api.MaxSide+1)}, {W: 1 << 32, H: 1 << 32}, {W: math.MinInt, H: 2}, {W: math.MaxInt, H: math.MaxInt, P: []int{1}},
	} {
		isRefused(t, p, affine.One(), 1, 1, api.ErrForm)
	}
	for _, n := range append([]int{-1, 1 << 32, 1<<32 + 5, -1 << 32}, ends...) {
		for at := range 6 {
			p := affine.Picture{W: 3, H: 2, P: make([]int, 6)}
			p.P[at] = n
			isRefused(t, p, affine.One(), 1, 1, api.ErrForm)
			// Also where none of it is seen.
			isRefused(t, p, affine.Map{one, 0, 0, one, 9 * one, 0}, 1, 1, api.ErrForm)
			isRefused(t, p, affine.One(), 0, 0, api.ErrForm)
		}
	}
}

// A picture may be greater than what is seen of it.
func TestGreatPictures(t *testing.T) {
	const h = api.MaxArea/api.MaxSide + 1
	p := affine.Picture{W: api.MaxSide, H: h, P: make([]int, api.MaxSide*h)}
	p.P[len(p.P)-1] = 7
	for _, smooth := range []bool{false, true} {
		got, e := affine.See(p, affine.Map{one, 0, 0, one, (2 - api.MaxSide) * one, (1 - h) * one}, 2, 1, smooth)
		same(t, "See", e, api.OK)
		same(t, "its last pixel", isSame(got, affine.Picture{W: 2, H: 1, P: []int{0, 7}}), true)
	}
	for _, empty := range []affine.Picture{{}, {P: []int{}}, {W: api.MaxSide}, {H: api.MaxSide}} {
		got, e := affine.See(empty, affine.One(), 2, 1, true)
		same(t, "See", e, api.OK)
		same(t, "nothing", isSame(got, affine.Picture{W: 2, H: 1, P: []int{0, 0}}), true)
	}
}

// What is handed in stays as it is, its spare room too, and no answer hangs on
// what was done to another one.
func TestNothingIsShared(t *testing.T) {
	room := []int{1, 2, 3, 4, 99, 98}
	for _, m := range []affine.Map{affine.One(), {one, 0, 0, one, one / 2, 0}} {
		for _, smooth := range []bool{false, true} {
			p := affine.Picture{W: 2, H: 2, P: room[:4]}
			for range 2 {
				got := sees(t, p, m, 2, 2, smooth)
				clear(got.P[:cap(got.P)])
				if !slices.Equal(room, []int{1, 2, 3, 4, 99, 98}) {
					t.Fatal("what was handed in is changed:", room)
				}
			}
		}
	}
}
