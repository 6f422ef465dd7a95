package affine_test

import (
	"math/big"
	"testing"

	"scumble/affine"
	"scumble/api"
)

// backs tells where Back answers otherwise than the chapter's words.
func backs(t *testing.T, m affine.Map) {
	t.Helper()
	should, ok := plainBack(m)
	got, e := m.Back()
	if (e == api.OK) != ok || !ok && e != api.ErrFlat || got != should {
		t.Errorf("%v back: %v, %d, not %v", m, got, e, should)
	}
}

func TestBack(t *testing.T) {
	for _, of := range [][2]affine.Map{
		{affine.One(), affine.One()},
		{{131072, 0, 0, 65536, 0, 0}, {32768, 0, 0, 65536, 0, 0}},
		{{one, 0, 0, one, 131072, -one}, {one, 0, 0, one, -131072, one}},
		{{0, -one, one, 0, 3 * one, 5 * one}, {0, one, -one, 0, -5 * one, 3 * one}},
		{{-one, 0, 0, one, 7, 9}, {-one, 0, 0, one, 7, -9}},
		{{one, one, 0, one, 0, 0}, {one, -one, 0, one, 0, 0}},
		{{one, 0, one, one, 0, 0}, {one, 0, -one, one, 0, 0}},
		{{3 * one, 0, 0, -3 * one, 0, 0}, {21845, 0, 0, -21845, 0, 0}},
		{{6 * one, 0, 0, 12 * one, 0, 0}, {10923, 0, 0, 5461, 0, 0}},
	} {
		got, e := of[0].Back()
		same(t, "Back", got, of[1])
		same(t, "Back", e, api.OK)
	}
}

func TestFlatMaps(t *testing.T) {
	for _, m := range []affine.Map{
		{}, {one, 0, 0, 0, 5, 5}, {0, one, 0, 0, 0, 0}, {one, one, one, one, 0, 0}, {2, 4, 3, 6, 1, 1},
		{1 << 24, 1 << 24, -1 << 24, -1 << 24, 1 << 36, 1 << 36}, {0, 0, 0, one, 0, 0},
	} {
		got, e := m.Back()
		same(t, "Back", e, api.ErrFlat)
		same(t, "Back beside an error", got, affine.Map{})
	}
}

func TestBackOfNoMap(t *testing.T) {
	for _, m := range noMaps() {
		got, e := m.Back()
		same(t, "Back", e, api.ErrLimit)
		same(t, "Back beside an error", got, affine.Map{})
	}
}

// The back map's slopes come to their limit, each of them, and beyond.
func TestBackToTheLimitOfSlopes(t *testing.T) {
	for n := 250; n <= 262; n++ {
		for _, more := range []int{-1, 0, 1} {
			for _, s := range []int{1, -1} {
				backs(t, affine.Map{s * n, 0, 0, one + more, 0, 0})
				backs(t, affine.Map{one + more, 0, 0, s * n, 0, 0})
				backs(t, affine.Map{0, s * n, one + more, 0, 0, 0})
				backs(t, affine.Map{0, one + more, s * n, 0, 0, 0})
			}
		}
	}
	got, e := affine.Map{256, 0, 0, -256, 0, 0}.Back()
	same(t, "Back", got, affine.Map{1 << 24, 0, 0, -1 << 24, 0, 0})
	same(t, "Back", e, api.OK)
	_, e = affine.Map{255, 0, 0, one, 0, 0}.Back()
	same(t, "Back", e, api.ErrFlat)
	// Slopes that are far longer than a map's, with the longest shifts.
	for _, m := range []affine.Map{
		{1, 0, 0, 1, api.MaxShift, api.MaxShift}, {1 << 24, 1<<24 - 1, 1<<24 - 1, 1<<24 - 2, api.MaxShift, -api.MaxShift},
		{1, 1 << 24, 0, -1, -api.MaxShift, api.MaxShift}, {1 << 24, 1, -1, 0, -api.MaxShift, -api.MaxShift},
	} {
		got, e := m.Back()
		same(t, "Back", e, api.ErrFlat)
		same(t, "Back beside an error", got, affine.Map{})
	}
}

// The back map's shifts come to their limit, and beyond.
func TestBackToTheLimitOfShifts(t *testing.T) {
	for _, most := range []int{api.MaxShift, api.MaxShift / 2, api.MaxShift / 256} {
		slope := most / (api.MaxShift / one)
		for more := -2; more <= 2; more++ {
			if most+more > api.MaxShift {
				continue
			}
			for _, n := range []int{most + more, -most - more} {
				for _, s := range []int{slope, -slope} {
					backs(t, affine.Map{s, 0, 0, one, n, 0})
					backs(t, affine.Map{one, 0, 0, s, 0, n})
					backs(t, affine.Map{0, one, s, 0, 0, n})
					backs(t, affine.Map{0, s, one, 0, n, 0})
				}
			}
		}
	}
	backs(t, affine.Map{one, 0, 0, one, api.MaxShift, -api.MaxShift})
	backs(t, affine.Map{one, 1, 0, one, 32767 + 5, api.MaxShift})
	got, e := affine.Map{one, 0, 0, one, -api.MaxShift, api.MaxShift}.Back()
	same(t, "Back", got, affine.Map{one, 0, 0, one, api.MaxShift, -api.MaxShift})
	same(t, "Back", e, api.OK)
	got, e = affine.Map{one / 2, 0, 0, one, api.MaxShift/2 + 1, 0}.Back()
	same(t, "Back", got, affine.Map{})
	same(t, "Back", e, api.ErrFlat)
}

// Quotients of halves, in each of the slopes and on both sides of 0: they are
// rounded up.
func TestBackRoundsHalves(t *testing.T) {
	for n := -9; n <= 9; n++ {
		// The area is 2^34, or 2^34 below 0, so that a slope of 2 is a half.
		for _, s := range []int{1 << 17, -1 << 17} {
			backs(t, affine.Map{s, 2 * n, 0, 1 << 17, 0, 0})
			backs(t, affine.Map{s, 0, 2 * n, 1 << 17, 0, 0})
			backs(t, affine.Map{2 * n, s, 1 << 17, 0, 0, 0})
			backs(t, affine.Map{0, s, 1 << 17, 2 * n, 0, 0})
		}
	}
	got, _ := affine.Map{1 << 17, 2, 0, 1 << 17, 0, 0}.Back()
	same(t, "rounded", got, affine.Map{one / 2, 0, 0, one / 2, 0, 0})
	got, _ = affine.Map{1 << 17, -2, 0, 1 << 17, 0, 0}.Back()
	same(t, "rounded", got, affine.Map{one / 2, 1, 0, one / 2, 0, 0})
}

// Quotients as near to a half as there are any.
func TestBackRoundsNearHalves(t *testing.T) {
	backs(t, affine.Map{1 << 17, 1, 1, 1 << 16, 0, 0})
	backs(t, affine.Map{1 << 17, -1, 1, 1 << 16, 0, 0})
	count := 0
	for area := 1<<16 + 1; area < 1<<18; area += 2 {
		for _, off := range []int{1, -1} {
			// A slope whose quotient, taken twice, lies this far from an odd number.
			inverse := new(big.Int).ModInverse(big1(1<<33), big1(area))
			d := int(inverse.Mul(inverse, big1(off)).Mod(inverse, big1(area)).Int64())
			if d == 0 || d > area/256 {
				continue
			}
			count++
			a := area/d + 1
			backs(t, affine.Map{a, a*d - area, 1, d, 0, 0})
			backs(t, affine.Map{-a, area - a*d, 1, d, 0, 0})
			backs(t, affine.Map{a, area - a*d, 1, -d, 0, 0})
			backs(t, affine.Map{1, d, a, a*d - area, 0, 0})
		}
	}
	if count < 100 {
		t.Error("only", count, "maps")
	}
}

func TestBackRounds(t *testing.T) {
	for _, slope := range []int{1 << 17, 1 << 18, 1 << 20, 1 << 22, 1 << 24, 3 << 20, 5 << 18, 3 << 22} {
		for _, other := range []int{one, one - 1, 3, -one, 1 << 24, -1 << 24, 1<<24 - 1} {
			for _, s := range []int{slope, -slope} {
				backs(t, affine.Map{s, 0, 0, other, 0, 0})
				backs(t, affine.Map{0, s, other, 0, 1, 1})
				backs(t, affine.Map{s, other, -other, s, 3, 3})
				backs(t, affine.Map{s, s / 2, other, one, -3, 7})
			}
		}
	}
	for e := -9; e <= 9; e++ {
		for _, m := range []affine.Map{
			{2 * one, 0, 0, 2 * one, e, e + 1}, {-2 * one, 0, 0, 4 * one, e, e + 1}, {0, 2 * one, -4 * one, 0, e, -e},
		} {
			backs(t, m)
		}
	}
	got, _ := affine.Map{2 * one, 0, 0, 2 * one, 1, -1}.Back()
	same(t, "rounded", got, affine.Map{one / 2, 0, 0, one / 2, 0, 1})
}

func TestDrawnBacks(t *testing.T) {
	d := &draw{2}
	for range 20000 {
		backs(t, d.plane(3, 3))
		backs(t, d.plane(3*one, 100*one))
		backs(t, d.plane(1000, 1<<20))
		backs(t, d.plane(1<<24, 1<<36))
		m := d.plane(1<<20, 1<<30)
		m[1], m[2] = m[1]/one, m[2]/one
		backs(t, m)
	}
}

// boxed tells where Box answers otherwise than the chapter's words.
func boxed(t *testing.T, m affine.Map, x int, y int, w int, h int) {
	t.Helper()
	bx, by, bw, bh, e := m.Box(x, y, w, h)
	if got, should := [4]int{bx, by, bw, bh}, plainBox(m, x, y, w, h); got != should || e != api.OK {
		t.Errorf("%v: Box(%d, %d, %d, %d): %v, %d, not %v", m, x, y, w, h, got, e, should)
	}
}

func TestBox(t *testing.T) {
	for _, of := range []struct {
		m         affine.Map
		from, box [4]int
	}{
		{affine.One(), [4]int{1, 2, 3, 4}, [4]int{1, 2, 3, 4}},
		{affine.One(), [4]int{-1, -2, 0, 0}, [4]int{-1, -2, 0, 0}},
		{affine.Map{one, 0, 0, one, 131072, -one}, [4]int{0, 0, 5, 5}, [4]int{2, -1, 5, 5}},
		{affine.Map{one, 0, 0, one, 1, -1}, [4]int{0, 0, 5, 5}, [4]int{0, -1, 6, 6}},
		{affine.Map{one, 0, 0, one, one - 1, 1 - one}, [4]int{0, 0, 0, 0}, [4]int{0, -1, 1, 1}},
		{affine.Map{0, -one, one, 0, 0, 0}, [4]int{1, 2, 3, 4}, [4]int{-6, 1, 4, 3}},
		{affine.Map{-one, 0, 0, 2 * one, 0, 0}, [4]int{1, 2, 3, 4}, [4]int{-4, 4, 3, 8}},
		{affine.Map{one, one, one, -one, 0, 0}, [4]int{0, 0, 2, 3}, [4]int{0, -3, 5, 5}},
		{affine.Map{}, [4]int{5, 5, 5, 5}, [4]int{0, 0, 0, 0}},
		{affine.Map{0, 0, 0, 0, 3 * one, one / 2}, [4]int{5, 5, 5, 5}, [4]int{3, 0, 0, 1}},
	} {
		bx, by, bw, bh, e := of.m.Box(of.from[0], of.from[1], of.from[2], of.from[3])
		same(t, "Box", [4]int{bx, by, bw, bh}, of.box)
		same(t, "Box", e, api.OK)
	}
}

// Each sign of the slopes makes another corner the first one.
func TestBoxesOfAllTurns(t *testing.T) {
	d := &draw{3}
	for range 300 {
		for signs := range 16 {
			m := d.plane(5*one, 9*one)
			for i := range 4 {
				m[i] = max(m[i], -m[i])
				if signs>>i&1 == 1 {
					m[i] = -m[i]
				}
			}
			boxed(t, m, d.from(-9, 9), d.from(-9, 9), d.from(0, 5), d.from(0, 5))
		}
	}
}

func TestBoxesAtTheLimits(t *testing.T) {
	const side = api.MaxSide
	for signs := range 64 {
		m := affine.Map(far())
		for i := range m {
			if signs>>i&1 == 1 {
				m[i] = -m[i]
			}
		}
		for _, x := range []int{-side, 0, side} {
			for _, w := range []int{0, 1, side} {
				boxed(t, m, x, -x, w, side-w)
				boxed(t, m, x, x, w, w)
			}
		}
	}
}

func TestNoBox(t *testing.T) {
	refused := func(m affine.Map, x int, y int, w int, h int) {
		t.Helper()
		bx, by, bw, bh, e := m.Box(x, y, w, h)
		same(t, "Box", e, api.ErrLimit)
		same(t, "Box beside an error", [4]int{bx, by, bw, bh}, [4]int{})
	}
	for _, m := range noMaps() {
		refused(m, 0, 0, 1, 1)
	}
	for _, n := range append([]int{api.MaxSide + 1, -api.MaxSide - 1}, ends...) {
		refused(affine.One(), n, 0, 1, 1)
		refused(affine.One(), 0, n, 1, 1)
		refused(affine.One(), 0, 0, n, 1)
		refused(affine.One(), 0, 0, 1, n)
		refused(affine.Map{}, n, n, n, n)
	}
	refused(affine.One(), 0, 0, -1, 0)
	refused(affine.One(), 0, 0, 0, -1)
}
