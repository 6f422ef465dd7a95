package pix

import "slices"

// The kinds of tables by their numbers.
const (
	levels = iota
	curves
	invert
	threshold
)

// maxPoints is how many points a curve has at most.
const maxPoints = 16

// Table makes a table.
func Table(kind int, params []int) ([]int, bool) {
	if !fits(kind, params) {
		return nil, false
	}
	table := make([]int, top+1)
	for v := range table {
		table[v] = replacement(kind, params, v)
	}
	return table, true
}

// Map replaces a pixel's bare colours.
func Map(table []int, p [4]int) [4]int {
	p = Unmultiply(p)
	for c := range alpha {
		p[c] = entry(table, p[c])
	}
	return Multiply(p)
}

// entry is a table's number; 0, where the table has none: Map doesn't panic,
// whatever it is handed.
func entry(table []int, v int) int {
	if v < 0 || v >= len(table) {
		return 0
	}
	return table[v]
}

// fits tells whether there is such a kind, and params are what it asks for.
func fits(kind int, params []int) bool {
	if slices.ContainsFunc(params, isNoNumber) {
		return false
	}
	switch kind {
	case levels:
		return len(params) == 2 && params[0] < params[1]
	case curves:
		return arePoints(params)
	case invert:
		return len(params) == 0
	case threshold:
		return len(params) == 1
	}
	return false
}

func isNoNumber(n int) bool { return n < 0 || n > top }

// arePoints tells whether numbers are pairs, as many as a curve may have, each
// pair's first number above that of the pair ahead.
func arePoints(params []int) bool {
	if len(params) < 2 || len(params) > 2*maxPoints || len(params)%2 != 0 {
		return false
	}
	for i := 2; i < len(params); i += 2 {
		if params[i-2] >= params[i] {
			return false
		}
	}
	return true
}

// replacement is what a table of a kind has for v.
func replacement(kind int, params []int, v int) int {
	switch kind {
	case levels:
		return level(params[0], params[1], v)
	case curves:
		return onCurve(params, v)
	case threshold:
		return cut(params[0], v)
	}
	return top - v
}

func cut(from int, v int) int {
	if v < from {
		return 0
	}
	return top
}

func level(lo int, hi int, v int) int {
	v = min(max(v, lo), hi)
	return (top*(v-lo) + (hi-lo)/2) / (hi - lo)
}

// onCurve is the height of a curve of points at v.
func onCurve(points []int, v int) int {
	if v <= points[0] {
		return points[1]
	}
	for i := 2; i < len(points); i += 2 {
		if v <= points[i] {
			return onLine([4]int(points[i-2:i+2]), v)
		}
	}
	return points[len(points)-1]
}

// onLine is the height at v of the line between two points.
func onLine(ends [4]int, v int) int {
	from, low, to, high := ends[0], ends[1], ends[2], ends[3]
	return low + (high-low)*(v-from)/(to-from)
}
