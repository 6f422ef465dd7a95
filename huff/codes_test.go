package huff_test

import (
	"math"
	"slices"
	"testing"

	"scumble/huff"
)

// weighs tells where lengths haven't this weight.
func weighs(t *testing.T, lengths []int, weight int) {
	t.Helper()
	if got, ok := huff.Weight(lengths); got != weight || !ok {
		t.Errorf("Weight(%v): %d, %v; not %d", lengths, got, ok, weight)
	}
}

// coded tells where lengths haven't the codes that the plain way gives, or
// have codes though they are too many.
func coded(t *testing.T, lengths []int) {
	t.Helper()
	if plainWeight(lengths, 16) > 1<<16 {
		noCodes(t, lengths)
		return
	}
	codes, ok := huff.Codes(lengths)
	if !ok || len(codes) != len(lengths) {
		t.Fatalf("Codes(%v): %v, %v", lengths, codes, ok)
	}
	for s, text := range plainCodes(lengths) {
		if codes[s] < 0 || codes[s] >= 1<<lengths[s] || binary(codes[s], lengths[s]) != text {
			t.Errorf("Codes(%v): %d for %d, not %s", lengths, codes[s], s, text)
		}
	}
}

func noCodes(t *testing.T, lengths []int) {
	t.Helper()
	if codes, ok := huff.Codes(lengths); ok || len(codes) != 0 {
		t.Errorf("Codes(%v): %v, %v", lengths, codes, ok)
	}
	if d, ok := huff.NewDecoder(lengths); ok || d != nil {
		t.Errorf("NewDecoder(%v): %v, %v", lengths, d, ok)
	}
}

// upTo are the lengths 1 to n, and n once more: they are whole.
func upTo(n int) []int {
	var lengths []int
	for i := range n {
		lengths = append(lengths, i+1)
	}
	return append(lengths, n)
}

// drawn are lengths that aren't too many, in a row without a rule.
func drawn(d *draw) []int {
	lengths := make([]int, 1+d.next(300))
	left := 1 << 16
	for range lengths {
		if n := 1 + d.next(16); left >= 1<<(16-n) {
			at := d.next(len(lengths))
			if lengths[at] == 0 {
				lengths[at] = n
				left -= 1 << (16 - n)
			}
		}
	}
	return lengths
}

func TestWeightOfEachLength(t *testing.T) {
	weighs(t, nil, 0)
	weighs(t, []int{}, 0)
	for n := 1; n <= 16; n++ {
		weighs(t, []int{n}, 1<<(16-n))
		weighs(t, []int{0, n, 0, n, n}, 3<<(16-n))
		weighs(t, upTo(n), 1<<16)
		weighs(t, same(300, n), 300<<(16-n))
	}
	weighs(t, same(300, 0), 0)
	weighs(t, []int{1, 3, 3, 0, 2}, 1<<16)
	weighs(t, []int{1, 1, 1}, 3<<15)
}

func TestWeightOfDrawnLengths(t *testing.T) {
	d := &draw{3}
	for range 500 {
		lengths := d.list(d.next(301), 17)
		weighs(t, lengths, plainWeight(lengths, 16))
	}
}

func TestWhatAreNoLengths(t *testing.T) {
	wrong := [][]int{same(301, 0), same(301, 16), same(1<<16, 9)}
	for _, n := range []int{-1, -2, -16, 17, 18, 33, 65, 1 << 40, math.MinInt, math.MaxInt} {
		wrong = append(wrong, []int{n}, []int{1, n}, []int{n, 0, 1}, append(same(299, 0), n))
	}
	for _, lengths := range wrong {
		if got, ok := huff.Weight(lengths); got != 0 || ok {
			t.Errorf("Weight of %d: %d, %v", len(lengths), got, ok)
		}
		noCodes(t, lengths)
	}
}

func TestCodesOfTheExample(t *testing.T) {
	codes, ok := huff.Codes([]int{1, 3, 3, 0, 2})
	if !ok || !slices.Equal(codes, []int{0, 6, 7, 0, 2}) {
		t.Errorf("%v, %v", codes, ok)
	}
}

// The codes of RFC 1951, section 3.2.2.
func TestCodesKnownFromElsewhere(t *testing.T) {
	codes, ok := huff.Codes([]int{3, 3, 3, 3, 3, 2, 4, 4})
	if !ok || !slices.Equal(codes, []int{2, 3, 4, 5, 6, 0, 14, 15}) {
		t.Errorf("%v, %v", codes, ok)
	}
}

func TestCodesOfAllShortLists(t *testing.T) {
	for _, lengths := range lists(5, 0, 1, 2, 3, 4) {
		coded(t, lengths)
	}
	for _, lengths := range lists(4, 0, 1, 2, 9, 15, 16) {
		coded(t, lengths)
	}
}

func TestCodesOfNothing(t *testing.T) {
	for _, lengths := range [][]int{nil, {}, {0}, same(300, 0)} {
		coded(t, lengths)
	}
}

func TestCodesOfOneSymbol(t *testing.T) {
	for n := 1; n <= 16; n++ {
		coded(t, []int{n})
		coded(t, append(same(299, 0), n))
	}
}

// Whole lengths have codes; with the least that can be put to them they have none.
func TestCodesWithoutRoomToSpare(t *testing.T) {
	for n := 1; n <= 16; n++ {
		lengths := upTo(n)
		coded(t, lengths)
		slices.Reverse(lengths)
		coded(t, lengths)
		coded(t, append(lengths, 0))
		noCodes(t, append(lengths, 16))
		noCodes(t, append([]int{16}, lengths...))
		noCodes(t, append([]int{1}, lengths...))
	}
	for n := 1; n <= 8; n++ {
		coded(t, same(1<<n, n))
		noCodes(t, same(1<<n+1, n))
		noCodes(t, append(same(1<<n, n), 16))
	}
	noCodes(t, same(300, 1))
	noCodes(t, same(300, 8))
	coded(t, same(300, 9))
	coded(t, same(300, 16))
}

func TestCodesOfDrawnLengths(t *testing.T) {
	d := &draw{4}
	for range 500 {
		lengths := drawn(d)
		coded(t, lengths)
		oneBeginsAnother(t, plainCodes(lengths))
	}
}

// What Lengths makes has codes.
func TestCodesOfLengthsOfCounts(t *testing.T) {
	d := &draw{5}
	for range 200 {
		lengths, ok := huff.Lengths(d.list(d.next(301), 1000), 9+d.next(8))
		if !ok {
			t.Fatal("no lengths")
		}
		coded(t, lengths)
	}
}

func TestCodesShareNothing(t *testing.T) {
	room := []int{1, 3, 3, 0, 2, 77, 78}
	first, _ := huff.Codes(room[:5])
	huff.Weight(room[:5])
	if !slices.Equal(room, []int{1, 3, 3, 0, 2, 77, 78}) {
		t.Errorf("lengths became %v", room)
	}
	clear(room)
	if !slices.Equal(first, []int{0, 6, 7, 0, 2}) {
		t.Errorf("%v", first)
	}
	second, _ := huff.Codes([]int{1, 3, 3, 0, 2})
	clear(first[:cap(first)])
	if !slices.Equal(second, []int{0, 6, 7, 0, 2}) {
		t.Errorf("%v", second)
	}
}
