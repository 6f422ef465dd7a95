package dct_test

import (
	"testing"

	"scumble/dct"
)

// The least and the greatest number of a block of samples.
const (
	least    = -128
	greatest = 127
)

// bound tells where a block's waves are too high, or the way there and back goes too far away.
func bound(t *testing.T, s [64]int) {
	t.Helper()
	f := dct.Forward(s)
	for i, n := range f {
		most := 1023
		if i == 0 {
			most = 1024
		}
		if n < -most || n > most {
			t.Fatalf("Forward of %v has %d at %d", s, n, i)
		}
	}
	for i, n := range dct.Back(f) {
		if n-s[i] < -5 || n-s[i] > 5 {
			t.Fatalf("there and back %v has %d at %d", s, n, i)
		}
	}
}

// turned is a block whose numbers have each other's places in what they may be.
func turned(s [64]int) [64]int {
	for i, n := range s {
		s[i] = least + greatest - n
	}
	return s
}

// No block makes a wave higher than the one that is least where the wave is below 0 and greatest
// where it is above, or the other way round.
func TestBoundsOfTheHighestWaves(t *testing.T) {
	for i := range 64 {
		s := all(greatest)
		for j := range s {
			if plainWave(i%8, j%8)*plainWave(i/8, j/8) < 0 {
				s[j] = least
			}
		}
		bound(t, s)
		bound(t, turned(s))
	}
	same(t, "the lowest of all", dct.Forward(all(least))[0], -1024)
}

// How far a number can be from itself there and back: half a number for each wave, as high as it
// is there; what the waves lack to be cosines; and half a number more.
func TestBoundsOfTheWayThereAndBack(t *testing.T) {
	for to := range 64 {
		away := 1 << 51
		weights := [64]int{}
		for f := range 64 {
			height := plainWave(f%8, to%8) * plainWave(f/8, to/8)
			away += max(height, -height) << 25
			for from := range weights {
				weights[from] += height * plainWave(f%8, from%8) * plainWave(f/8, from/8)
			}
		}
		weights[to] -= 1 << 52
		for _, n := range weights {
			away += 128 * max(n, -n)
		}
		if away >= 6<<52 {
			t.Errorf("%d can be %f away", to, float64(away)/(1<<52))
		}
	}
}

func TestBoundsOfDrawnBlocks(t *testing.T) {
	d := &draw{5}
	for range 3000 {
		var noise, ends, stripes, corner [64]int
		row, column := d.next(256), d.next(256)
		for i := range 64 {
			noise[i] = least + d.next(256)
			ends[i] = least + 255*d.next(2)
			stripes[i] = least + 255*((row>>(i/8)^column>>(i%8))&1)
			corner[i] = least
			if i%8 < row%8 && i/8 < column%8 {
				corner[i] = greatest
			}
		}
		for _, s := range [][64]int{noise, ends, stripes, corner} {
			bound(t, s)
			bound(t, turned(s))
		}
	}
}

// One place of all others, and one wave, as high as it can be.
func TestBoundsOfOnePlace(t *testing.T) {
	for place := range 64 {
		for _, n := range []int{least, greatest, 1, -1} {
			bound(t, only(place, n))
			s := all(least)
			s[place] = n
			bound(t, s)
			bound(t, turned(s))
		}
	}
}
