package sums_test

import (
	"math"
	"testing"

	"scumble/sums"
)

// joins tells where the Crc of two texts isn't told by the Crc of each.
func joins(t *testing.T, first []byte, second []byte) {
	t.Helper()
	got := sums.CrcJoin(plainCrc(first), plainCrc(second), len(second))
	should := plainCrc(append(append([]byte{}, first...), second...))
	if got != should {
		t.Errorf("CrcJoin of %d and %d bytes: %#x, not %#x", len(first), len(second), got, should)
	}
}

func TestJoinAtEachPlace(t *testing.T) {
	b := (&draw{5}).bytes(300)
	for n := range len(b) + 1 {
		joins(t, b[:n], b[n:])
		joins(t, b[n:], b[:n])
	}
}

func TestJoinOfLongTexts(t *testing.T) {
	b := (&draw{6}).bytes(1<<20 + 20)
	for _, n := range []int{1<<12 - 1, 1 << 12, 1<<16 + 1, 1 << 19, 1<<20 - 1, 1 << 20} {
		joins(t, b[:20], b[20:20+n])
		joins(t, b[:n], b[n:])
	}
}

func TestJoinWithNothing(t *testing.T) {
	for _, sum := range []int{0, 1, 0x7fffffff, 0x80000000, 0xcbf43926, 0xffffffff} {
		want(t, "nothing behind", sums.CrcJoin(sum, 0, 0), sum)
		for _, n := range []int{4, 5, 300, 1 << 31, 1 << 40} {
			want(t, "nothing ahead", sums.CrcJoin(0, sum, n), sum)
		}
	}
}

// The polynomial is such that 2^32 - 1 bytes more leave the factor of the
// first sum as it is, so lengths that no text here has are those of short ones.
func TestJoinOfLengthsThatNoTextHas(t *testing.T) {
	const round = 1<<32 - 1
	d := &draw{7}
	for range 20 {
		first, second := d.bytes(d.next(50)), d.bytes(256)
		a := plainCrc(first)
		for _, n := range []int{0, 1, 7, 31, 100, 255, 256} {
			b := plainCrc(second[:n])
			should := plainCrc(append(append([]byte{}, first...), second[:n]...))
			for _, rounds := range []int{1, 2, 127, 255} {
				want(t, "CrcJoin, rounds further", sums.CrcJoin(a, b, n+rounds*round), should)
			}
		}
		// 2^40 is 256 rounds and 256, and one less is a byte less.
		want(t, "CrcJoin of 2^40", sums.CrcJoin(a, plainCrc(second), 1<<40),
			plainCrc(append(append([]byte{}, first...), second...)))
		want(t, "CrcJoin of 2^40 - 1", sums.CrcJoin(a, plainCrc(second[:255]), 1<<40-1),
			plainCrc(append(append([]byte{}, first...), second[:255]...)))
	}
}

// Three texts are the same joined from either end.
func TestJoinOfThree(t *testing.T) {
	d := &draw{8}
	for range 200 {
		a, b, c := d.next(1<<24)<<8, d.next(1<<24)<<8|255, d.next(1<<24)
		n, m := d.next(1<<24)<<15|d.next(1<<15), d.next(1<<24)<<15|d.next(1<<15)
		want(t, "CrcJoin of three", sums.CrcJoin(sums.CrcJoin(a, b, n), c, m), sums.CrcJoin(a, sums.CrcJoin(b, c, m), n+m))
	}
}

func TestJoinOfLengthsOutOfRange(t *testing.T) {
	for _, n := range []int{-1, -2, -1 << 40, math.MinInt, 1<<40 + 1, 1<<40 + 256, 1 << 41, 1 << 62, math.MaxInt} {
		for _, x := range [][2]int{{0, 0}, {1, 0}, {0, 1}, {0xcbf43926, 0x2144df1c}, {0xffffffff, 0xffffffff}} {
			want(t, "CrcJoin out of range", sums.CrcJoin(x[0], x[1], n), 0)
		}
	}
}
