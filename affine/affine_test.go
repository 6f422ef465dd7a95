package affine_test

import (
	"math"
	"testing"

	"scumble/affine"
	"scumble/api"
)

func same[T comparable](t *testing.T, what string, got T, should T) {
	t.Helper()
	if got != should {
		t.Errorf("%s: %v, not %v", what, got, should)
	}
}

// ends are numbers at which calls may go wrong.
var ends = []int{math.MinInt, math.MinInt + 1, -1 << 53, -1 << 40, 1 << 40, 1 << 53, 1 << 62, math.MaxInt - 1, math.MaxInt}

// noMaps are maps with one number beyond its limit.
func noMaps() []affine.Map {
	var maps []affine.Map
	for i, most := range far() {
		for _, n := range append([]int{most + 1, -most - 1, most << 1}, ends...) {
			m := affine.One()
			m[i] = n
			maps = append(maps, m)
			m = affine.Map{}
			m[i] = n
			maps = append(maps, m)
		}
	}
	return maps
}

func TestOne(t *testing.T) {
	same(t, "One", affine.One(), affine.Map{65536, 0, 0, 65536, 0, 0})
	same(t, "Right", affine.One().Right(), true)
}

func TestRight(t *testing.T) {
	same(t, "Right of nothing", affine.Map{}.Right(), true)
	for i, most := range far() {
		for _, n := range []int{most, -most, most - 1, 1, -1} {
			m := affine.One()
			m[i] = n
			same(t, "Right", m.Right(), true)
		}
	}
	for _, m := range noMaps() {
		same(t, "Right", m.Right(), false)
	}
	same(t, "Right of the limits", affine.Map(far()).Right(), true)
}

// times tells where Times answers otherwise than the chapter's words.
func times(t *testing.T, m affine.Map, n affine.Map) {
	t.Helper()
	should, ok := plainTimes(m, n)
	got, e := m.Times(n)
	if (e == api.OK) != ok || !ok && e != api.ErrLimit || got != should {
		t.Errorf("%v times %v: %v, %d, not %v", m, n, got, e, should)
	}
}

// The order tells: first n, then m.
func TestTimes(t *testing.T) {
	move := affine.Map{one, 0, 0, one, 3 * one, -one}
	turn := affine.Map{0, -one, one, 0, 0, 0}
	for _, of := range []struct{ m, n, product affine.Map }{
		{affine.One(), affine.One(), affine.One()},
		{affine.One(), move, move},
		{move, affine.One(), move},
		{turn, move, affine.Map{0, -one, one, 0, one, 3 * one}},
		{move, turn, affine.Map{0, -one, one, 0, 3 * one, -one}},
		{turn, turn, affine.Map{-one, 0, 0, -one, 0, 0}},
		{affine.Map{1, 2, 3, 4, 5, 6}, affine.Map{7 * one, 8 * one, 9 * one, 10 * one, 11 * one, 12 * one}, affine.Map{25, 28, 57, 64, 40, 87}},
		{affine.Map{}, move, affine.Map{}},
		{move, affine.Map{}, affine.Map{0, 0, 0, 0, 3 * one, -one}},
	} {
		got, e := of.m.Times(of.n)
		same(t, "Times", got, of.product)
		same(t, "Times", e, api.OK)
	}
}

// A half is rounded up, on both sides of 0, in each of the six numbers.
func TestTimesRounds(t *testing.T) {
	for _, n := range []int{32767, 32768, 32769, 65535, 65536, 98303, 98304, 98305, 1, 0} {
		for _, sign := range []int{1, -1} {
			up := affine.Map{sign, 0, 0, sign, 0, 0}
			times(t, up, affine.Map{n, n, n, n, n, n})
			times(t, affine.Map{n, n, n, n, n, n}, up)
			times(t, affine.Map{0, sign, sign, 0, 7, -7}, affine.Map{n, n, n, n, n, n})
		}
	}
	half := affine.Map{1, 0, 0, 1, 0, 0}
	got, _ := half.Times(affine.Map{32768, -32768, 32767, -32769, 32768, -32768})
	same(t, "rounded", got, affine.Map{1, 0, 0, -1, 1, 0})
}

// Each number of the product comes to its limit, and beyond.
func TestTimesToTheLimit(t *testing.T) {
	for at, most := range far() {
		for _, sign := range []int{1, -1} {
			for more := -1; more <= 1; more++ {
				n := affine.Map{}
				n[at] = sign*most/2 + more
				times(t, affine.Map{2 * one, 0, 0, 2 * one, 0, 0}, n)
				times(t, affine.Map{0, 2 * one, 2 * one, 0, 0, 0}, n)
				if at >= 4 {
					m := affine.One()
					m[at] = sign * (most - most/2)
					times(t, m, n)
				}
			}
		}
	}
	// A quotient that is rounded down to the limit, or up beyond it.
	for _, n := range []int{1, 2, 3, 32766, 32767, 32768, 32769} {
		times(t, affine.Map{api.MaxSlope, n, n, api.MaxSlope, 0, 0}, affine.Map{one, 1, 1, one, 0, 0})
		times(t, affine.Map{api.MaxSlope, -n, -n, api.MaxSlope, 0, 0}, affine.Map{one, 1, 1, one, 0, 0})
		times(t, affine.Map{one, n, n, one, 0, 0}, affine.Map{0, 0, 0, 0, api.MaxShift, 1})
		times(t, affine.Map{one, n, -n, one, 0, 0}, affine.Map{0, 0, 0, 0, -api.MaxShift, -api.MaxShift})
	}
}

// No sum is too long, with all numbers at their limits.
func TestTimesOfTheGreatest(t *testing.T) {
	for signs := range 1 << 12 {
		m, n := affine.Map(far()), affine.Map(far())
		for i := range 6 {
			if signs>>i&1 == 1 {
				m[i] = -m[i]
			}
			if signs>>(6+i)&1 == 1 {
				n[i] = -n[i]
			}
		}
		times(t, m, n)
	}
}

func TestDrawnTimes(t *testing.T) {
	d := &draw{1}
	for range 20000 {
		times(t, d.plane(3*one, 100*one), d.plane(3*one, 100*one))
		times(t, d.plane(1<<20, 1<<32), d.plane(1<<20, 1<<32))
		times(t, d.plane(1<<24, 1<<36), d.plane(1<<12, 1<<24))
		times(t, d.plane(1<<24, 1<<36), d.plane(1<<24, 1<<36))
	}
}

func TestTimesOfNoMap(t *testing.T) {
	for _, no := range noMaps() {
		for _, of := range [][2]affine.Map{{no, affine.One()}, {affine.One(), no}, {no, no}, {no, {}}, {{}, no}} {
			got, e := of[0].Times(of[1])
			same(t, "Times", e, api.ErrLimit)
			same(t, "Times beside an error", got, affine.Map{})
		}
	}
}

// All calls end at all numbers.
func TestCallsEndAtAllNumbers(t *testing.T) {
	numbers := append([]int{-1, 0, 1, one, api.MaxSide, api.MaxSide + 1, api.MaxSlope, api.MaxShift}, ends...)
	for _, a := range numbers {
		for _, b := range numbers {
			p := affine.Picture{W: 1, H: 2, P: []int{a, b}}
			for _, m := range []affine.Map{{a, b, b, a, a, b}, affine.One(), {one, 0, 0, one, a, b}} {
				m.Right()
				m.Times(m)
				m.Back()
				m.Box(a, b, 1, 1)
				m.Box(1, 1, a, b)
				for _, smooth := range []bool{false, true} {
					affine.At(p, m, a, b, smooth)
					affine.At(affine.Picture{W: a, H: b, P: []int{1}}, m, b, a, smooth)
					affine.See(p, m, 2, 1, smooth)
					affine.See(affine.Picture{W: a, H: b}, m, 1, 1, smooth)
					if a > api.MaxSide || b > api.MaxSide || a < 0 || b < 0 {
						affine.See(affine.Picture{}, m, a, b, smooth)
					}
				}
			}
		}
	}
}
