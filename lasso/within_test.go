package lasso_test

import (
	"bytes"
	"math/big"
	"testing"

	"scumble/api"
	"scumble/lasso"
)

// within tells where Within answers otherwise than the chapter's words.
func within(t *testing.T, shape []point, x int, y int) {
	t.Helper()
	got, e := lasso.Within(shape, x, y)
	if should := plainWithin(shape, x, y); got != should || e != api.OK {
		t.Fatalf("Within(%v, %d, %d): %v, %d, not %v", shape, x, y, got, e, should)
	}
}

// masked tells where Mask answers otherwise than the chapter's words.
func masked(t *testing.T, shape []point, w int, h int) {
	t.Helper()
	got, e := lasso.Mask(shape, w, h)
	if should := plainMask(shape, w, h); !bytes.Equal(got, should) || e != api.OK {
		t.Fatalf("Mask(%v, %d, %d): %v, %d, not %v", shape, w, h, got, e, should)
	}
}

// picture is a mask as it looks: a letter for each pixel, a text for each row.
func picture(t *testing.T, shape []point, w int, h int) []string {
	t.Helper()
	mask, e := lasso.Mask(shape, w, h)
	if len(mask) != w*h || e != api.OK {
		t.Fatalf("Mask: %d bytes, %d", len(mask), e)
	}
	var rows []string
	for y := range h {
		row := ""
		for _, b := range mask[y*w : (y+1)*w] {
			row += map[byte]string{0: ".", 255: "#"}[b]
		}
		rows = append(rows, row)
	}
	return rows
}

func TestShapesAsTheyLook(t *testing.T) {
	for name, of := range map[string]struct {
		shape []point
		rows  []string
	}{
		// Middles that lie on a side at the right aren't within, at the left they
		// are.
		"upper right of the diagonal": {[]point{{0, 0}, {4, 0}, {4, 4}}, []string{"####.", ".###.", "..##.", "...#.", "....."}},
		"lower left of the diagonal":  {[]point{{0, 0}, {4, 4}, {0, 4}}, []string{".....", "#....", "##...", "###..", "....."}},
		"all sides on middles":        {[]point{{1, 0}, {2, 1}, {1, 2}, {0, 1}}, []string{"#....", "#....", ".....", ".....", "....."}},
		"once round":                  {times(1, point{1, 1}, point{4, 1}, point{4, 3}, point{1, 3}), []string{".....", ".###.", ".###.", ".....", "....."}},
		"twice round":                 {times(2, point{1, 1}, point{4, 1}, point{4, 3}, point{1, 3}), []string{".....", ".....", ".....", ".....", "....."}},
		"thrice round":                {times(3, point{1, 1}, point{4, 1}, point{4, 3}, point{1, 3}), []string{".....", ".###.", ".###.", ".....", "....."}},
		"a hole":                      {[]point{{0, 0}, {5, 0}, {5, 4}, {0, 4}, {0, 0}, {1, 1}, {4, 1}, {4, 3}, {1, 3}, {1, 1}}, []string{"#####", "#...#", "#...#", "#####", "....."}},
		"crossing itself":             {[]point{{0, 0}, {4, 4}, {4, 0}, {0, 4}}, []string{"...#.", "#.##.", "#.##.", "...#.", "....."}},
		"around all":                  {[]point{{-9, -9}, {9, -9}, {9, 9}, {-9, 9}}, []string{"#####", "#####", "#####", "#####", "#####"}},
		"left of all":                 {[]point{{-9, -9}, {0, -9}, {0, 9}, {-9, 9}}, []string{".....", ".....", ".....", ".....", "....."}},
		"right of all":                {[]point{{5, -9}, {9, -9}, {9, 9}, {5, 9}}, []string{".....", ".....", ".....", ".....", "....."}},
		"a line there and back":       {[]point{{0, 0}, {5, 5}, {2, 2}}, []string{".....", ".....", ".....", ".....", "....."}},
		"one point only":              {make([]point, 3), []string{".....", ".....", ".....", ".....", "....."}},
	} {
		for y, row := range picture(t, of.shape, 5, 5) {
			if row != of.rows[y] {
				t.Errorf("%s: row %d is %s, not %s", name, y, row, of.rows[y])
			}
			for x := range 5 {
				got, e := lasso.Within(of.shape, x, y)
				same(t, name, got, of.rows[y][x] == '#')
				same(t, name, e, api.OK)
			}
		}
	}
}

// All shapes of three points on a small grid, at all pixels about it.
func TestAllSmallShapes(t *testing.T) {
	const side = 4
	for n := range side * side * side * side * side * side {
		shape := make([]point, 3)
		for i := range shape {
			shape[i] = point{n % side, n / side % side}
			n /= side * side
		}
		for y := -1; y <= side; y++ {
			for x := -1; x <= side; x++ {
				within(t, shape, x, y)
			}
		}
		masked(t, shape, side+1, side+1)
	}
}

func TestDrawnShapes(t *testing.T) {
	d := &draw{2}
	for range 300 {
		shape := d.shape(d.from(3, 12), -6, 18)
		for y := -8; y < 20; y += 3 {
			for x := -8; x < 20; x++ {
				within(t, shape, x, y)
			}
		}
		masked(t, shape, d.from(0, 20), d.from(0, 20))
	}
	masked(t, d.shape(256, -3, 15), 13, 12)
	masked(t, d.shape(255, -far, far), 13, 12)
}

// Pixels that lie just aside of a long side, where only exact numbers tell.
func TestNarrowDecisions(t *testing.T) {
	d := &draw{3}
	for range 500 {
		shape := d.shape(d.from(3, 5), -far, far)
		a, b := shape[0], shape[1]
		if a.Y == b.Y {
			continue
		}
		y := d.from(min(a.Y, b.Y), max(a.Y, b.Y)-1)
		at := place(a, b, half(y))
		x := int(new(big.Int).Div(at.Num(), at.Denom()).Int64())
		for i := max(x-2, -far); i <= min(x+2, far); i++ {
			within(t, shape, i, y)
		}
	}
	// From corner to corner middles lie on the side itself; moved by one, the
	// side passes them by as little as can be.
	for _, by := range []int{0, 1} {
		shape := []point{{-far, -far}, {far, far - by}, {far, far}, {-far, far}}
		for _, n := range []int{-far, -far + 1, -far / 2, -2, -1, 0, 1, 2, far / 2, far - 2, far - 1} {
			for i := max(n-1, -far); i <= n+1; i++ {
				within(t, shape, i, n)
			}
		}
	}
}

func TestPixelsAtTheEnds(t *testing.T) {
	all := []point{{-far, -far}, {far, -far}, {far, far}, {-far, far}}
	for _, of := range []struct {
		x, y   int
		within bool
	}{
		{-far, -far, true}, {far - 1, -far, true}, {far, -far, false}, {0, 0, true},
		{-far, far - 1, true}, {far - 1, far - 1, true}, {far, far - 1, false},
		{-far, far, false}, {far - 1, far, false}, {far, far, false},
	} {
		got, e := lasso.Within(all, of.x, of.y)
		if got != of.within || e != api.OK {
			t.Errorf("Within(%d, %d): %v, %d", of.x, of.y, got, e)
		}
	}
	for _, n := range tooFar {
		for _, at := range []point{{n, 0}, {0, n}, {n, n}, {-far, n}, {n, far - 1}} {
			got, e := lasso.Within(all, at.X, at.Y)
			if got || e != api.ErrLimit {
				t.Errorf("Within(%d, %d): %v, %d", at.X, at.Y, got, e)
			}
		}
	}
}

func TestSizesOfMasks(t *testing.T) {
	shape := []point{{-far, -far}, {far, -far}, {far, far}, {-far, far}}
	const rows = api.MaxArea / api.MaxSide
	for _, of := range [][2]int{
		{0, 0}, {0, 1}, {1, 0}, {0, api.MaxSide}, {api.MaxSide, 0}, {1, 1}, {7, 3},
		{api.MaxSide, 1}, {1, api.MaxSide}, {2048, 2048}, {2047, 2049},
		{api.MaxSide, rows}, {rows, api.MaxSide},
	} {
		mask, e := lasso.Mask(shape, of[0], of[1])
		if len(mask) != of[0]*of[1] || e != api.OK || bytes.Count(mask, []byte{255}) != len(mask) {
			t.Errorf("Mask(%d, %d): %d bytes, %d", of[0], of[1], len(mask), e)
		}
	}
	refuse := [][2]int{
		{-1, 0}, {0, -1}, {-1, -1}, {-1, 5}, {5, -1}, {2048, 2049}, {2049, 2048},
		{api.MaxSide, rows + 1}, {rows + 1, api.MaxSide}, {api.MaxSide, api.MaxSide},
		{api.MaxSide + 1, 0}, {0, api.MaxSide + 1}, {api.MaxSide + 1, 1}, {1, api.MaxSide + 1},
		{1 << 32, 1 << 32}, {1 << 62, 4},
	}
	for _, n := range tooFar {
		refuse = append(refuse, [2]int{n, 0}, [2]int{0, n}, [2]int{n, 1}, [2]int{1, n}, [2]int{n, n})
	}
	for _, of := range refuse {
		mask, e := lasso.Mask(shape, of[0], of[1])
		if len(mask) != 0 || e != api.ErrLimit {
			t.Errorf("Mask(%d, %d): %d bytes, %d", of[0], of[1], len(mask), e)
		}
	}
}

// The greatest mask, of a shape all of whose sides pass each row.
func TestGreatMask(t *testing.T) {
	const w, h = 2048, 2048
	shape := make([]point, 256)
	for i := range shape {
		shape[i] = point{8*i + i%3, i % 2 * h}
	}
	mask, e := lasso.Mask(shape, w, h)
	if len(mask) != w*h || e != api.OK {
		t.Fatalf("Mask: %d bytes, %d", len(mask), e)
	}
	d := &draw{4}
	for range 2000 {
		x, y := d.next(w), d.next(h)
		same(t, "a pixel", mask[y*w+x] == 255, plainWithin(shape, x, y))
	}
}
