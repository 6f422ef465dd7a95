package lasso_test

import (
	"math"
	"slices"
	"testing"

	"scumble/api"
	"scumble/lasso"
)

func same[T comparable](t *testing.T, what string, got T, should T) {
	t.Helper()
	if got != should {
		t.Errorf("%s: %v, not %v", what, got, should)
	}
}

// refused tells where a call takes a shape that is none, or answers something
// beside the error.
func refused(t *testing.T, shape []point) {
	t.Helper()
	within, e := lasso.Within(shape, 1, 1)
	same(t, "Within", e, api.ErrLimit)
	same(t, "Within beside an error", within, false)
	mask, e := lasso.Mask(shape, 3, 3)
	same(t, "Mask", e, api.ErrLimit)
	same(t, "Mask beside an error", len(mask), 0)
	area, e := lasso.Area(shape)
	same(t, "Area", e, api.ErrLimit)
	same(t, "Area beside an error", area, 0)
	turned, e := lasso.Turn(shape, point{}, point{})
	same(t, "Turn", e, api.ErrLimit)
	same(t, "Turn beside an error", len(turned), 0)
	x, y, w, h, e := lasso.Box(shape)
	same(t, "Box", e, api.ErrLimit)
	same(t, "Box beside an error", [4]int{x, y, w, h}, [4]int{})
}

// taken tells where a call doesn't take a shape.
func taken(t *testing.T, shape []point) {
	t.Helper()
	_, e := lasso.Within(shape, 1, 1)
	same(t, "Within", e, api.OK)
	_, e = lasso.Mask(shape, 3, 3)
	same(t, "Mask", e, api.OK)
	_, e = lasso.Area(shape)
	same(t, "Area", e, api.OK)
	_, e = lasso.Turn(shape, point{1, 0}, point{})
	same(t, "Turn", e, api.OK)
	_, _, _, _, e = lasso.Box(shape)
	same(t, "Box", e, api.OK)
}

// tooFar are numbers that no point has.
var tooFar = []int{far + 1, -far - 1, 1 << 32, -1 << 32, 1 << 53, math.MaxInt - 1, math.MaxInt, math.MinInt, math.MinInt + 1}

func TestHowManyPointsAShapeHas(t *testing.T) {
	d := &draw{1}
	for n := range 300 {
		shape := d.shape(n, -9, 9)
		if n >= 3 && n <= 256 {
			taken(t, shape)
		} else {
			refused(t, shape)
		}
	}
	refused(t, nil)
	refused(t, make([]point, 1<<20))
	taken(t, make([]point, 3))
	taken(t, make([]point, 256))
}

func TestWherePointsMayBe(t *testing.T) {
	for _, n := range []int{3, 4, 256} {
		for _, at := range []int{0, 1, n / 2, n - 1} {
			for _, coord := range []int{far, -far, far - 1, 0} {
				shape := make([]point, n)
				shape[at].X = coord
				taken(t, shape)
				shape[at] = point{0, coord}
				taken(t, shape)
				shape[at] = point{coord, -coord}
				taken(t, shape)
			}
			for _, coord := range tooFar {
				shape := make([]point, n)
				shape[at].X = coord
				refused(t, shape)
				shape[at] = point{0, coord}
				refused(t, shape)
				shape[at] = point{coord, coord}
				refused(t, shape)
			}
		}
	}
}

func TestExample(t *testing.T) {
	shape := []point{{0, 0}, {4, 0}, {4, 3}, {0, 3}}
	area, e := lasso.Area(shape)
	same(t, "Area", area, 24)
	same(t, "Area", e, api.OK)
	for y := -3; y < 7; y++ {
		for x := -3; x < 7; x++ {
			within, e := lasso.Within(shape, x, y)
			same(t, "Within", within, x >= 0 && x <= 3 && y >= 0 && y <= 2)
			same(t, "Within", e, api.OK)
		}
	}
	turned, e := lasso.Turn(shape, point{0, 1}, point{})
	same(t, "Turn", e, api.OK)
	if !slices.Equal(turned, []point{{0, 0}, {0, 4}, {-3, 4}, {-3, 0}}) {
		t.Error("Turn:", turned)
	}
}

// What is handed in stays as it is, its spare room too, and no answer hangs on
// what was done to another one.
func TestNothingIsShared(t *testing.T) {
	room := []point{{0, 0}, {4, 0}, {4, 4}, {7, 7}, {8, 8}}
	before := slices.Clone(room)
	shape := room[:3]
	var masks [][]byte
	var turns [][]point
	for range 2 {
		taken(t, shape)
		mask, _ := lasso.Mask(shape, 4, 4)
		turned, _ := lasso.Turn(shape, point{1, 0}, point{})
		masks, turns = append(masks, slices.Clone(mask)), append(turns, slices.Clone(turned))
		clear(mask[:cap(mask)])
		clear(turned[:cap(turned)])
		if !slices.Equal(room, before) {
			t.Fatal("what was handed in is changed:", room)
		}
	}
	if !slices.Equal(masks[0], masks[1]) || !slices.Equal(masks[0], plainMask(shape, 4, 4)) {
		t.Error("Mask:", masks)
	}
	if !slices.Equal(turns[0], turns[1]) || !slices.Equal(turns[0], shape) {
		t.Error("Turn:", turns)
	}
}

// All calls end at all numbers.
func TestCallsEndAtAllNumbers(t *testing.T) {
	numbers := append([]int{-far, -1, 0, 1, 2, far, api.MaxSide, api.MaxSide + 1}, tooFar...)
	for _, a := range numbers {
		for _, b := range numbers {
			for _, shape := range [][]point{{{a, b}, {b, a}, {a, a}}, {{0, 0}, {9, 0}, {9, 9}}} {
				lasso.Within(shape, a, b)
				lasso.Mask(shape, a, b)
				lasso.Area(shape)
				lasso.Turn(shape, point{a, b}, point{b, a})
				lasso.Box(shape)
			}
		}
	}
}
