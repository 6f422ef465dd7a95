package huff_test

import (
	"math"
	"slices"
	"testing"

	"scumble/huff"
)

// least tells where lengths of counts aren't right, or cost more than others.
func least(t *testing.T, counts []int, most int) {
	t.Helper()
	lengths, ok := huff.Lengths(counts, most)
	if !ok || len(lengths) != len(counts) {
		t.Fatalf("Lengths(%v, %d): %v, %v", counts, most, lengths, ok)
	}
	cost := 0
	for s, n := range lengths {
		if n < 0 || n > most || (n == 0) != (counts[s] == 0) {
			t.Fatalf("Lengths(%v, %d): %v", counts, most, lengths)
		}
		cost += counts[s] * n
	}
	if weight := plainWeight(lengths, most); weight > 1<<most {
		t.Errorf("Lengths(%v, %d): %v are too many", counts, most, lengths)
	}
	if should := leastCost(counts, most); cost != should {
		t.Errorf("Lengths(%v, %d): %v cost %d, not %d", counts, most, lengths, cost, should)
	}
}

// noLengths tells where there are lengths all the same.
func noLengths(t *testing.T, counts []int, most int) {
	t.Helper()
	if lengths, ok := huff.Lengths(counts, most); ok || len(lengths) != 0 {
		t.Errorf("Lengths of %d counts, %d: %v, %v", len(counts), most, lengths, ok)
	}
}

// fibonacci are counts of which each is what two ahead are together: their
// codes are the longest that a sum of counts can ask for.
func fibonacci(n int) []int {
	counts := same(n, 1)
	for i := 2; i < n; i++ {
		counts[i] = counts[i-1] + counts[i-2]
	}
	return counts
}

func TestLengthsOfTheExample(t *testing.T) {
	counts := []int{5, 1, 1, 0, 1}
	least(t, counts, 3)
	if leastCost(counts, 3) != 13 {
		t.Error(leastCost(counts, 3))
	}
}

func TestLengthsOfAllShortLists(t *testing.T) {
	for _, counts := range lists(5, 0, 1, 2, 3, 7) {
		for most := 3; most <= 6; most++ {
			least(t, counts, most)
		}
	}
	for _, counts := range lists(7, 0, 1, 4) {
		least(t, counts, 3)
		least(t, counts, 4)
	}
}

func TestLengthsOfNothing(t *testing.T) {
	for most := 1; most <= 16; most++ {
		for _, counts := range [][]int{nil, {}, {0}, same(300, 0)} {
			least(t, counts, most)
		}
	}
}

// The only code has a bit.
func TestLengthsOfOneSymbol(t *testing.T) {
	for most := 1; most <= 16; most++ {
		for _, count := range []int{1, 2, 1 << 40} {
			for _, at := range []int{0, 1, 298, 299} {
				counts := same(300, 0)
				counts[at] = count
				lengths, ok := huff.Lengths(counts, most)
				if !ok || len(lengths) != 300 || lengths[at] != 1 || slices.Max(lengths) != 1 || plainWeight(lengths, 1) != 1 {
					t.Errorf("one symbol at %d: %v, %v", at, lengths, ok)
				}
			}
		}
	}
}

func TestLengthsOfTwoSymbols(t *testing.T) {
	for most := 1; most <= 16; most++ {
		lengths, ok := huff.Lengths([]int{0, 1 << 40, 0, 1}, most)
		if !ok || !slices.Equal(lengths, []int{0, 1, 0, 1}) {
			t.Errorf("%v, %v", lengths, ok)
		}
	}
}

// As many symbols as there are codes of most bits, then one more.
func TestLengthsWithoutRoomToSpare(t *testing.T) {
	d := &draw{1}
	for most := 1; most <= 8; most++ {
		full := 1 << most
		counts := make([]int, full+20)
		for i := range full {
			counts[20+i] = 1 + d.next(1<<20)<<(i%20)
		}
		lengths, ok := huff.Lengths(counts, most)
		if !ok || !slices.Equal(lengths, append(same(20, 0), same(full, most)...)) {
			t.Errorf("%d symbols: %v, %v", full, lengths, ok)
		}
		counts[0] = 1
		noLengths(t, counts, most)
		least(t, counts, most+1)
		counts[21] = 0
		least(t, counts, most)
	}
}

// Counts that ask for longer codes than there may be.
func TestLengthsThatAreCutShort(t *testing.T) {
	for most := 5; most <= 12; most++ {
		least(t, fibonacci(min(58, 1<<most)), most)
		least(t, fibonacci(most), most)
		least(t, fibonacci(most+1), most)
		least(t, fibonacci(most+2), most)
		least(t, fibonacci(most+3), most)
	}
	powers := make([]int, 41)
	for i := range powers {
		powers[i] = 1 << (40 - i)
	}
	for most := 6; most <= 16; most++ {
		least(t, powers[:most], most)
		least(t, powers[:most+1], most)
		least(t, powers[:most+2], most)
		least(t, powers, most)
	}
	least(t, fibonacci(58), 16)
}

func TestLengthsOfTheGreatestCounts(t *testing.T) {
	for most := 9; most <= 11; most++ {
		least(t, same(300, 1<<40), most)
		least(t, same(300, 1), most)
	}
	counts := append(same(150, 1<<40), fibonacci(58)...)
	least(t, append(counts, same(92, 1)...), 9)
	least(t, append(counts, same(92, 1<<40-1)...), 12)
}

func TestLengthsOfDrawnCounts(t *testing.T) {
	d := &draw{2}
	for range 3000 {
		most := 1 + d.next(8)
		n := 1 + d.next(1<<most)
		counts := append(d.list(n, 1+d.next(1000)), same(d.next(3), 0)...)
		for i := range counts {
			counts[i] <<= d.next(1 + d.next(30))
		}
		least(t, counts, most)
	}
	for range 20 {
		counts := d.list(300, 1<<20)
		for i := range counts {
			counts[i] >>= d.next(20)
		}
		least(t, counts, 9+d.next(3))
	}
}

func TestLengthsOfAMostOutOfRange(t *testing.T) {
	for _, most := range []int{0, -1, 17, 18, 32, 63, 64, 1 << 40, math.MinInt, math.MaxInt} {
		for _, counts := range [][]int{nil, {0}, {1}, {1, 2, 3}, {-1}} {
			noLengths(t, counts, most)
		}
	}
}

func TestLengthsOfCountsOutOfRange(t *testing.T) {
	for _, count := range []int{-1, -2, -1 << 40, math.MinInt, 1<<40 + 1, 1 << 41, math.MaxInt} {
		for _, counts := range [][]int{{count}, {1, count}, {count, 1, 2}, {0, 0, count, 0}, append(same(299, 1), count)} {
			noLengths(t, counts, 16)
			noLengths(t, counts, 1)
		}
	}
}

func TestLengthsOfTooManyCounts(t *testing.T) {
	least(t, same(300, 1), 9)
	for _, n := range []int{301, 302, 1 << 16, 1 << 20} {
		noLengths(t, same(n, 1), 16)
		noLengths(t, same(n, 0), 16)
	}
	noLengths(t, same(3, 1), 1)
	noLengths(t, same(257, 1), 8)
	noLengths(t, same(300, 1), 8)
}

func TestLengthsShareNothing(t *testing.T) {
	room := []int{5, 3, 0, 1, 77, 78}
	first, _ := huff.Lengths(room[:4], 4)
	if !slices.Equal(room, []int{5, 3, 0, 1, 77, 78}) {
		t.Errorf("counts became %v", room)
	}
	before := slices.Clone(first)
	clear(room)
	if !slices.Equal(first, before) {
		t.Errorf("%v became %v", before, first)
	}
	second, _ := huff.Lengths([]int{5, 3, 0, 1}, 4)
	clear(first[:cap(first)])
	if !slices.Equal(second, before) {
		t.Errorf("%v, not %v", second, before)
	}
}
