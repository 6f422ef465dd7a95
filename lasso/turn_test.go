package lasso_test

import (
	"slices"
	"testing"

	"scumble/api"
	"scumble/lasso"
)

// isArea tells where Area answers otherwise than this.
func isArea(t *testing.T, shape []point, should int) {
	t.Helper()
	if got, e := lasso.Area(shape); got != should || e != api.OK {
		t.Errorf("Area of %d points: %d, %d, not %d", len(shape), got, e, should)
	}
}

func TestArea(t *testing.T) {
	for _, of := range []struct {
		shape []point
		area  int
	}{
		{[]point{{0, 0}, {4, 0}, {4, 3}, {0, 3}}, 24},
		{[]point{{0, 3}, {4, 3}, {4, 0}, {0, 0}}, -24},
		{[]point{{0, 0}, {1, 0}, {0, 1}}, 1},
		{[]point{{7, -5}, {8, -5}, {7, -4}}, 1},
		{[]point{{0, 0}, {4, 4}, {4, 0}, {0, 4}}, 0},
		{times(2, point{0, 0}, point{4, 0}, point{4, 3}, point{0, 3}), 48},
		{make([]point, 3), 0},
		{[]point{{0, 0}, {5, 5}, {2, 2}}, 0},
		{[]point{{-far, -far}, {far, -far}, {far, far}}, 1 << 42},
		{[]point{{far, far}, {far - 1, far}, {far, far - 1}}, 1},
	} {
		isArea(t, of.shape, of.area)
	}
}

// As often round the greatest square as there are points for, either way.
func TestGreatestAreas(t *testing.T) {
	shape := times(64, point{-far, -far}, point{far, -far}, point{far, far}, point{-far, far})
	isArea(t, shape, 1<<49)
	slices.Reverse(shape)
	isArea(t, shape, -1<<49)
	shape[100] = point{-far + 1, far - 1}
	isArea(t, shape, plainArea(shape))
}

func TestDrawnAreas(t *testing.T) {
	d := &draw{5}
	for range 2000 {
		shape := d.shape(d.from(3, 256), -far, far)
		isArea(t, shape, plainArea(shape))
		shape = d.shape(d.from(3, 5), -9, 9)
		isArea(t, shape, plainArea(shape))
	}
}

// isBox tells where Box answers otherwise than this.
func isBox(t *testing.T, shape []point, should [4]int) {
	t.Helper()
	x, y, w, h, e := lasso.Box(shape)
	if got := [4]int{x, y, w, h}; got != should || e != api.OK {
		t.Errorf("Box(%v): %v, %d, not %v", shape, got, e, should)
	}
}

func TestBox(t *testing.T) {
	isBox(t, []point{{0, 0}, {4, 0}, {4, 3}, {0, 3}}, [4]int{0, 0, 4, 3})
	isBox(t, []point{{5, 9}, {-2, 7}, {1, -3}}, [4]int{-2, -3, 7, 12})
	isBox(t, []point{{-5, -9}, {-5, -9}, {-5, -9}}, [4]int{-5, -9, 0, 0})
	isBox(t, []point{{1, 1}, {2, 2}, {3, 3}}, [4]int{1, 1, 2, 2})
	isBox(t, []point{{-far, far}, {far, far}, {far, -far}}, [4]int{-far, -far, 2 * far, 2 * far})
	isBox(t, []point{{far, far}, {far - 1, far}, {far, far}}, [4]int{far - 1, far, 1, 0})
}

func TestDrawnBoxes(t *testing.T) {
	d := &draw{6}
	for range 300 {
		shape := d.shape(d.from(3, 9), -5, 9)
		slices.SortFunc(shape, func(a, b point) int { return a.Y - b.Y })
		y, bottom := shape[0].Y, shape[len(shape)-1].Y
		slices.SortFunc(shape, func(a, b point) int { return a.X - b.X })
		x, right := shape[0].X, shape[len(shape)-1].X
		d.mix(shape)
		isBox(t, shape, [4]int{x, y, right - x, bottom - y})
		for j := -7; j < 11; j++ {
			for i := -7; i < 11; i++ {
				within, _ := lasso.Within(shape, i, j)
				if within && (i < x || i >= right || j < y || j >= bottom) {
					t.Errorf("(%d, %d) is within %v, but not in its box", i, j, shape)
				}
			}
		}
	}
}

// mix changes the order of points.
func (d *draw) mix(points []point) {
	for i := range points {
		j := d.next(i + 1)
		points[i], points[j] = points[j], points[i]
	}
}

// turns tells where Turn answers otherwise than the chapter's words.
func turns(t *testing.T, shape []point, by point, and point) {
	t.Helper()
	should, ok := plainTurn(shape, by, and)
	got, e := lasso.Turn(shape, by, and)
	if (e == api.OK) != ok || !ok && e != api.ErrLimit || !slices.Equal(got, should) {
		t.Errorf("Turn(%v, %v, %v): %v, %d, not %v", shape, by, and, got, e, should)
	}
}

func TestTurn(t *testing.T) {
	for _, of := range []struct {
		by, and point
		turned  []point
	}{
		{point{1, 0}, point{0, 0}, []point{{1, 2}, {-3, 4}, {5, -6}}},
		{point{1, 0}, point{10, 20}, []point{{11, 22}, {7, 24}, {15, 14}}},
		{point{0, 1}, point{0, 0}, []point{{-2, 1}, {-4, -3}, {6, 5}}},
		{point{-1, 0}, point{0, 0}, []point{{-1, -2}, {3, -4}, {-5, 6}}},
		{point{0, -1}, point{0, 0}, []point{{2, -1}, {4, 3}, {-6, -5}}},
		{point{2, 0}, point{0, 1}, []point{{2, 5}, {-6, 9}, {10, -11}}},
		{point{3, 2}, point{-7, 1}, []point{{-8, 9}, {-24, 7}, {20, -7}}},
		{point{0, 0}, point{far, -far}, []point{{far, -far}, {far, -far}, {far, -far}}},
	} {
		got, e := lasso.Turn([]point{{1, 2}, {-3, 4}, {5, -6}}, of.by, of.and)
		if !slices.Equal(got, of.turned) || e != api.OK {
			t.Errorf("Turn by %v and %v: %v, %d, not %v", of.by, of.and, got, e, of.turned)
		}
	}
}

// One point of the shape, any of them, comes to the last place that a point may
// have, or beyond it.
func TestTurnToTheLimit(t *testing.T) {
	for at := range 4 {
		for _, of := range []struct{ p, by, and point }{
			{point{far / 2, 0}, point{2, 0}, point{0, 0}},
			{point{far / 2, 0}, point{2, 0}, point{1, 0}},
			{point{far / 2, 0}, point{2, 0}, point{0, 1}},
			{point{far / 2, 0}, point{-2, 0}, point{0, 0}},
			{point{far / 2, 0}, point{-2, 0}, point{-1, 0}},
			{point{0, far / 2}, point{2, 0}, point{0, 0}},
			{point{0, far / 2}, point{2, 0}, point{0, 1}},
			{point{0, far / 2}, point{-2, 0}, point{0, -1}},
			{point{far, far}, point{1, 0}, point{0, 0}},
			{point{far, -far}, point{0, 1}, point{0, 0}},
			{point{far, -far}, point{0, 1}, point{1, 0}},
			{point{far, -far}, point{0, 1}, point{0, 1}},
			{point{far, far}, point{far, far}, point{0, -far}},
			{point{-far, far}, point{far, far}, point{0, 0}},
			{point{far, 0}, point{0, far}, point{0, 0}},
			{point{1 << 10, 1 << 10}, point{1 << 10, 0}, point{0, 0}},
			{point{1 << 10, 1 << 10}, point{1 << 10, 1}, point{0, 0}},
			{point{1 << 10, 1 << 10}, point{1 << 10, 1}, point{0, -1 << 10}},
		} {
			shape := make([]point, 4)
			shape[at] = of.p
			turns(t, shape, of.by, of.and)
		}
	}
}

func TestTurnByNoPoint(t *testing.T) {
	shape := make([]point, 3)
	for _, n := range tooFar {
		for _, no := range []point{{n, 0}, {0, n}, {n, n}, {far, n}, {n, -far}} {
			for _, of := range [][2]point{{no, {}}, {{}, no}, {no, no}} {
				got, e := lasso.Turn(shape, of[0], of[1])
				if len(got) != 0 || e != api.ErrLimit {
					t.Errorf("Turn by %v and %v: %v, %d", of[0], of[1], got, e)
				}
			}
		}
	}
	// Also where all points would come back to where points may be.
	for _, of := range [][2]point{
		{{-1, 0}, {far + 1, 0}}, {{1, 0}, {-far - 1, 0}}, {{0, -1}, {0, far + 1}}, {{0, 1}, {0, -far - 1}},
		{{-far, far}, {2 * far, -2 * far}},
	} {
		got, e := lasso.Turn([]point{of[0], of[0], of[0]}, point{1, 0}, of[1])
		if len(got) != 0 || e != api.ErrLimit {
			t.Errorf("Turn of %v and %v: %v, %d", of[0], of[1], got, e)
		}
	}
	for _, last := range []point{{far, 0}, {-far, 0}, {0, far}, {0, -far}, {far, -far}} {
		turns(t, shape, last, point{})
		turns(t, shape, point{}, last)
		turns(t, shape, last, last)
	}
}

func TestDrawnTurns(t *testing.T) {
	d := &draw{7}
	for range 3000 {
		at := func(most int) point { return d.shape(1, -most, most)[0] }
		turns(t, d.shape(d.from(3, 6), -1000, 1000), at(700), at(far))
		turns(t, d.shape(3, -far, far), at(1), at(1000))
		turns(t, d.shape(256, -2, 2), at(far/4), at(far/4))
		turns(t, d.shape(3, -far, far), at(far), at(far))
	}
}

// What is turned has the area times the square of the length it is stretched
// by, and turned back four times it is where it was.
func TestTurnedShapes(t *testing.T) {
	d := &draw{8}
	for range 500 {
		shape := d.shape(d.from(3, 9), -1000, 1000)
		by := d.shape(1, -500, 500)[0]
		turned, e := lasso.Turn(shape, by, point{d.from(-9, 9), 3})
		same(t, "Turn", e, api.OK)
		isArea(t, turned, plainArea(shape)*(by.X*by.X+by.Y*by.Y))
		round := shape
		for range 4 {
			round, e = lasso.Turn(round, point{0, -1}, point{})
			same(t, "Turn", e, api.OK)
		}
		if !slices.Equal(round, shape) {
			t.Errorf("%v round is %v", shape, round)
		}
	}
}
