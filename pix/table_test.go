package pix_test

import (
	"math"
	"slices"
	"testing"

	"scumble/pix"
)

// isTable asks whether there is such a table, with these numbers.
func isTable(t *testing.T, kind int, params []int, should func(v int) int) {
	t.Helper()
	handed := slices.Clone(params)
	table, ok := pix.Table(kind, params)
	if !ok || len(table) != 256 {
		t.Fatalf("Table(%d, %v): %d numbers, %t", kind, params, len(table), ok)
	}
	if !slices.Equal(params, handed) {
		t.Fatalf("Table(%d, %v) changed what it was handed", kind, handed)
	}
	for v, got := range table {
		if got != should(v) {
			t.Fatalf("Table(%d, %v) of %d is %d, not %d", kind, params, v, got, should(v))
		}
	}
}

func isNoTable(t *testing.T, kind int, params ...int) {
	t.Helper()
	if table, ok := pix.Table(kind, params); ok || len(table) != 0 {
		t.Errorf("Table(%d, %v): %d numbers, %t", kind, params, len(table), ok)
	}
}

// entries asks for single numbers of a table: what is replaced, and by what.
func entries(t *testing.T, kind int, params []int, pairs ...[2]int) {
	t.Helper()
	table, ok := pix.Table(kind, params)
	for _, p := range pairs {
		if !ok || table[p[0]] != p[1] {
			t.Errorf("Table(%d, %v) of %d isn't %d", kind, params, p[0], p[1])
		}
	}
}

func TestAllLevels(t *testing.T) {
	for lo := range 256 {
		for hi := range 256 {
			if lo < hi {
				isTable(t, 0, []int{lo, hi}, func(v int) int { return plainLevels(lo, hi, v) })
			} else {
				isNoTable(t, 0, lo, hi)
			}
		}
	}
	entries(t, 0, []int{0, 255}, [2]int{0, 0}, [2]int{1, 1}, [2]int{254, 254}, [2]int{255, 255})
	entries(t, 0, []int{10, 12}, [2]int{10, 0}, [2]int{11, 128}, [2]int{12, 255}, [2]int{0, 0}, [2]int{255, 255})
	entries(t, 0, []int{100, 200}, [2]int{100, 0}, [2]int{101, 3}, [2]int{150, 128}, [2]int{199, 252}, [2]int{200, 255})
	entries(t, 0, []int{0, 7}, [2]int{1, 36}, [2]int{2, 73}, [2]int{6, 219})
	entries(t, 0, []int{254, 255}, [2]int{254, 0}, [2]int{255, 255})
}

func TestAllThresholds(t *testing.T) {
	for threshold := range 256 {
		isTable(t, 3, []int{threshold}, func(v int) int {
			if v < threshold {
				return 0
			}
			return 255
		})
	}
}

func TestInvert(t *testing.T) {
	for _, none := range [][]int{nil, {}} {
		isTable(t, 2, none, func(v int) int { return 255 - v })
	}
}

func TestCurvesByHand(t *testing.T) {
	entries(t, 1, []int{0, 0, 255, 255}, [2]int{0, 0}, [2]int{77, 77}, [2]int{255, 255})
	entries(t, 1, []int{100, 9}, [2]int{0, 9}, [2]int{100, 9}, [2]int{255, 9})
	entries(t, 1, []int{0, 255, 255, 0}, [2]int{0, 255}, [2]int{77, 178}, [2]int{255, 0})
	// Rising and falling both round towards the left point's height.
	entries(t, 1, []int{10, 20, 13, 21}, [2]int{9, 20}, [2]int{10, 20}, [2]int{11, 20}, [2]int{12, 20}, [2]int{13, 21}, [2]int{14, 21})
	entries(t, 1, []int{10, 21, 13, 20}, [2]int{9, 21}, [2]int{10, 21}, [2]int{11, 21}, [2]int{12, 21}, [2]int{13, 20}, [2]int{14, 20})
	entries(t, 1, []int{10, 100, 20, 0, 30, 255}, [2]int{0, 100}, [2]int{15, 50}, [2]int{20, 0}, [2]int{21, 25}, [2]int{29, 229}, [2]int{30, 255}, [2]int{31, 255})
	entries(t, 1, []int{254, 3, 255, 250}, [2]int{253, 3}, [2]int{254, 3}, [2]int{255, 250})
}

// Each line between two points of the edges, and each single point.
func TestCurvesOfOneAndTwoPoints(t *testing.T) {
	for _, v := range edges() {
		for _, w := range edges() {
			isTable(t, 1, []int{v, w}, func(int) int { return w })
			for _, more := range edges() {
				for _, high := range edges() {
					points := []int{v, w, more, high}
					if v < more {
						isTable(t, 1, points, func(v int) int { return plainCurve(points, v) })
					} else {
						isNoTable(t, 1, points...)
					}
				}
			}
		}
	}
}

// drawnCurve is a curve of so many points.
func drawnCurve(d *draw, count int) []int {
	var at []int
	for len(at) < count {
		if v := d.next(256); !slices.Contains(at, v) {
			at = append(at, v)
		}
	}
	slices.Sort(at)
	var points []int
	for _, v := range at {
		points = append(points, v, d.next(256))
	}
	return points
}

func TestDrawnCurves(t *testing.T) {
	d := &draw{3}
	for count := 1; count <= 16; count++ {
		for range 200 {
			points := drawnCurve(d, count)
			isTable(t, 1, points, func(v int) int { return plainCurve(points, v) })
		}
	}
}

// A curve whose points don't all rise, wherever the one is that doesn't.
func TestCurvesThatDoNotRise(t *testing.T) {
	d := &draw{4}
	for count := 2; count <= 16; count++ {
		for wrong := 1; wrong < count; wrong++ {
			points := drawnCurve(d, count)
			points[2*wrong] = points[2*wrong-2]
			isNoTable(t, 1, points...)
			points[2*wrong] = max(points[2*wrong-2]-1, 0)
			isNoTable(t, 1, points...)
		}
	}
}

func TestTooFewAndTooManyParams(t *testing.T) {
	fits := map[[2]int]bool{{0, 2}: true, {2, 0}: true, {3, 1}: true}
	for pairs := 1; pairs <= 16; pairs++ {
		fits[[2]int{1, 2 * pairs}] = true
	}
	for kind := range 4 {
		var params []int
		for count := range 70 {
			table, ok := pix.Table(kind, params)
			if ok != fits[[2]int{kind, count}] || ok != (len(table) == 256) || !ok && len(table) != 0 {
				t.Errorf("Table(%d, %d numbers): %d numbers, %t", kind, count, len(table), ok)
			}
			params = append(params, count)
		}
	}
}

func TestNoSuchKind(t *testing.T) {
	for _, kind := range []int{-1, 4, 5, 256, 1 << 32, 1<<32 + 2, math.MinInt, math.MaxInt} {
		for _, params := range [][]int{nil, {1}, {1, 2}, {1, 2, 3, 4}} {
			isNoTable(t, kind, params...)
		}
	}
}

// One number that isn't from 0 to 255, wherever it stands.
func TestParamsThatAreNoNumbers(t *testing.T) {
	for _, bad := range []int{-1, 256, 1 << 32, 1<<32 + 7, math.MinInt, math.MaxInt} {
		isNoTable(t, 0, bad, 200)
		isNoTable(t, 0, 100, bad)
		isNoTable(t, 2, bad)
		isNoTable(t, 3, bad)
		isNoTable(t, 1, bad, 0)
		d := &draw{5}
		for count := 1; count <= 16; count++ {
			for at := range 2 * count {
				points := drawnCurve(d, count)
				points[at] = bad
				isNoTable(t, 1, points...)
			}
		}
	}
}

// A table is the caller's own.
func TestTablesShareNothing(t *testing.T) {
	params := []int{0, 0, 255, 255, 9, 9}[:4]
	one, _ := pix.Table(1, params)
	two, _ := pix.Table(1, params)
	for v := range one {
		one[v] = 7
	}
	if spare := one[len(one):cap(one)]; len(spare) > 0 {
		spare[0] = 7
	}
	for v, got := range two {
		same(t, "of the other table", got, v)
	}
	if !slices.Equal(params[:6], []int{0, 0, 255, 255, 9, 9}) {
		t.Errorf("params are %v", params[:6])
	}
	params[1] = 100
	same(t, "of the table made ahead", two[0], 0)
}

// tables are some of each kind, and one of no kind.
func tables() [][]int {
	levels, _ := pix.Table(0, []int{50, 180})
	curve, _ := pix.Table(1, []int{0, 200, 100, 10, 255, 255})
	invert, _ := pix.Table(2, nil)
	threshold, _ := pix.Table(3, []int{128})
	other := make([]int, 256)
	for v := range other {
		other[v] = v * 37 % 256
	}
	return [][]int{levels, curve, invert, threshold, other}
}

func TestMapOfAllColours(t *testing.T) {
	for _, table := range tables() {
		kept := slices.Clone(table)
		for a := range 256 {
			for c := range a + 1 {
				p := [4]int{c, a - c, c / 2, a}
				should := [4]int{3: a}
				for i := range 3 {
					should[i] = times(table[without(p[i], a)], a)
				}
				got := pix.Map(table, p)
				if got != should || !isPixel(got) {
					t.Fatalf("Map of %v is %v, not %v", p, got, should)
				}
			}
		}
		if !slices.Equal(table, kept) {
			t.Fatal("Map changed its table")
		}
	}
}

func TestMapByHand(t *testing.T) {
	invert, _ := pix.Table(2, nil)
	same(t, "of what covers all", pix.Map(invert, [4]int{255, 0, 7, 255}), [4]int{0, 255, 248, 255})
	same(t, "of half a pixel", pix.Map(invert, [4]int{128, 0, 64, 128}), [4]int{0, 128, 64, 128})
	same(t, "of nothing", pix.Map(invert, [4]int{}), [4]int{})
	threshold, _ := pix.Table(3, []int{255})
	same(t, "at the threshold", pix.Map(threshold, [4]int{9, 8, 0, 9}), [4]int{9, 0, 0, 9})
}
