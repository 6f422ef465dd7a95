package dct_test

import (
	"testing"

	"scumble/dct"
)

func TestZigzagByHand(t *testing.T) {
	same(t, "Zigzag", dct.Zigzag(), block(`0 1 8 16 9 2 3 10 17 24 32 25 18 11 4 5
		12 19 26 33 40 48 41 34 27 20 13 6 7 14 21 28
		35 42 49 56 57 50 43 36 29 22 15 23 30 37 44 51
		58 59 52 45 38 31 39 46 53 60 61 54 47 55 62 63`))
}

func TestZigzagByThePlainWay(t *testing.T) {
	same(t, "Zigzag", dct.Zigzag(), plainZigzag())
}

// Each place stands in the zigzag once, the lines u + v = n behind one another.
func TestZigzagHasEachPlaceOnce(t *testing.T) {
	var seen [64]int
	line := 0
	for _, place := range dct.Zigzag() {
		seen[place]++
		n := place%8 + place/8
		if n < line || n > line+1 {
			t.Errorf("%d stands behind the line %d", place, line)
		}
		line = n
	}
	same(t, "how often", seen, all(1))
}

func TestZigzagIsNewEachTime(t *testing.T) {
	z := dct.Zigzag()
	clear(z[:])
	same(t, "Zigzag", dct.Zigzag(), plainZigzag())
}
