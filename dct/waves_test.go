package dct_test

import (
	"math"
	"strconv"
	"testing"

	"scumble/dct"
)

// far is the greatest number of which Forward and Back are promised something.
const far = 1 << 24

func goes(t *testing.T, s [64]int, f [64]int) {
	t.Helper()
	same(t, "Forward", dct.Forward(s), f)
}

func comes(t *testing.T, f [64]int, s [64]int) {
	t.Helper()
	same(t, "Back", dct.Back(f), s)
}

// The row that is told again is that of cosines.
func TestHeightsAreCosines(t *testing.T) {
	for k, c := range plainC() {
		same(t, "c("+strconv.Itoa(k)+")", c, int(math.Round(4096*math.Cos(float64(k)*math.Pi/16))))
	}
}

func TestWavesOfTheExample(t *testing.T) {
	goes(t, all(100), only(0, 800))
	comes(t, only(0, 800), all(100))
}

// A block of one number has one wave, which is alike everywhere.
func TestWavesOfOneNumber(t *testing.T) {
	for n := -300; n <= 300; n++ {
		goes(t, all(n), only(0, down(64*n*2896*2896+1<<25, 1<<26)))
		comes(t, only(0, n), all(down(n*2896*2896+1<<25, 1<<26)))
	}
	goes(t, all(-128), only(0, -1024))
	goes(t, all(127), only(0, 1016))
	goes(t, all(far), only(0, 16*2896*2896))
	goes(t, [64]int{}, [64]int{})
	comes(t, [64]int{}, [64]int{})
}

// Midway between two numbers it is the upper one.
func TestWavesMidwayBetweenNumbers(t *testing.T) {
	goes(t, all(2048), only(0, 16381))
	goes(t, all(-2048), only(0, -16380))
	comes(t, only(0, 1<<17), all(16381))
	comes(t, only(0, -1<<17), all(-16380))
}

// Each place by itself tells which wave it belongs to, and how high that one is there.
func TestWavesOfOnePlace(t *testing.T) {
	for place := range 64 {
		for _, n := range []int{1, -1, 2, -3, 8, -8, 100, -128, 127, 1000, -4097, 1 << 20, far, -far} {
			s := only(place, n)
			goes(t, s, plainForward(s))
			comes(t, s, plainBack(s))
		}
	}
}

// The height of each wave at each place, as near as a number of 2^24 shows it.
func TestWavesByHand(t *testing.T) {
	row := only(0, 1<<14) // (0, 0): C(u, 0) C(v, 0) / 2^12
	f := dct.Forward(row)
	for i, should := range numbers("2896 4017 3784 3406 2896 2276 1567 799") {
		same(t, "C("+strconv.Itoa(i)+", 0)", f[i], down(should*2896+1<<11, 1<<12))
		same(t, "C("+strconv.Itoa(i)+", 0)", f[8*i], down(should*2896+1<<11, 1<<12))
	}
	// (2, 1): C(u, 2) C(v, 1) / 2^12, and C(2, 2) = c(10), C(7, 2) = c(3), C(3, 1) = c(9), C(6, 1) = c(18).
	f = dct.Forward(only(8+2, 1<<14))
	same(t, "C(0, 2) C(0, 1)", f[0], down(2896*2896+1<<11, 1<<12))
	same(t, "C(2, 2) C(0, 1)", f[2], down(-1567*2896+1<<11, 1<<12))
	same(t, "C(7, 2) C(3, 1)", f[8*3+7], down(3406*-799+1<<11, 1<<12))
	same(t, "C(5, 2) C(6, 1)", f[8*6+5], down(799*-3784+1<<11, 1<<12))
	same(t, "C(1, 2) C(1, 1)", f[8*1+1], down(2276*3406+1<<11, 1<<12))
}

func TestWavesOfDrawnBlocks(t *testing.T) {
	d := &draw{1}
	for _, most := range []int{1, 2, 3, 7, 30, 128, 255, 1023, 2047, 32768, 1 << 20, far} {
		for range 200 {
			s := d.block(most)
			goes(t, s, plainForward(s))
			comes(t, s, plainBack(s))
		}
	}
}

// Blocks whose sums are the greatest and the least that can be, by numbers of any length.
func TestWavesOfTheGreatestNumbers(t *testing.T) {
	d := &draw{2}
	for i := range 64 {
		up, over := only(i, 0), only(i, 0)
		for j := range 64 {
			up[j], over[j] = far, far
			if plainWave(i%8, j%8)*plainWave(i/8, j/8) < 0 {
				up[j] = -far
			}
			if plainWave(j%8, i%8)*plainWave(j/8, i/8) < 0 {
				over[j] = -far
			}
		}
		for range 2 {
			goes(t, up, longForward(up))
			comes(t, over, longBack(over))
			for j := range 64 {
				up[j], over[j] = -up[j], -over[j]
			}
		}
	}
	for range 30 {
		s := d.block(far)
		goes(t, s, longForward(s))
		comes(t, s, longBack(s))
	}
}

// Blocks that lie on their side have waves that lie on their side.
func TestWavesOfBlocksOnTheirSide(t *testing.T) {
	onSide := func(b [64]int) [64]int {
		out := b
		for i, n := range b {
			out[i%8*8+i/8] = n
		}
		return out
	}
	d := &draw{3}
	for range 200 {
		s := d.block(1000)
		goes(t, onSide(s), onSide(dct.Forward(s)))
		comes(t, onSide(s), onSide(dct.Back(s)))
	}
}

// realForward is what waves of real numbers are.
func realForward(s [64]int) [64]float64 {
	wave := func(u int, x int) float64 {
		if u == 0 {
			return math.Sqrt(0.125)
		}
		return math.Cos(float64((2*x+1)*u)*math.Pi/16) / 2
	}
	var f [64]float64
	for i := range f {
		for j, n := range s {
			f[i] += float64(n) * wave(i%8, j%8) * wave(i/8, j/8)
		}
	}
	return f
}

func TestWavesAreNearToRealOnes(t *testing.T) {
	d := &draw{4}
	for range 500 {
		s := d.block(128)
		f := dct.Forward(s)
		for i, r := range realForward(s) {
			if math.Abs(float64(f[i])-r) > 1 {
				t.Fatalf("%v has %d at %d, not about %f", s, f[i], i, r)
			}
		}
	}
}

// A block that is often told of, with what is known of it: its waves in steps. (Where elsewhere
// -48.5 makes 3 steps of 14 downward, here a whole number does, -49, and that makes 4.)
func TestWavesOfAKnownBlock(t *testing.T) {
	s := block(`52 55 61 66 70 61 64 73
		63 59 55 90 109 85 69 72
		62 59 68 113 144 104 66 73
		63 58 71 122 154 106 70 69
		67 61 68 104 126 88 68 70
		79 65 60 70 77 68 58 75
		85 71 64 59 55 61 65 83
		87 79 69 68 65 76 78 94`)
	for i := range s {
		s[i] -= 128
	}
	f := dct.Forward(s)
	same(t, "its first wave", f[0], -415)
	same(t, "one to the right", f[1], -30)
	same(t, "one below", f[8], 4)
	steps, _ := dct.Steps(50, false)
	for i, t := range steps {
		f[i] = dct.InSteps(f[i], t)
	}
	same(t, "in steps", f, block(`-26 -3 -6 2 2 -1 0 0
		0 -2 -4 1 1 0 0 0
		-3 1 5 -1 -1 0 0 0
		-4 1 2 -1 0 0 0 0
		1 0 0 0 0 0 0 0
		0 0 0 0 0 0 0 0
		0 0 0 0 0 0 0 0
		0 0 0 0 0 0 0 0`))
	var row [64]int
	for i, place := range dct.Zigzag() {
		row[i] = f[place]
	}
	should := [64]int(make([]int, 64))
	copy(should[:], numbers("-26 -3 0 -3 -2 -6 2 -4 1 -4 1 1 5 1 2 -1 1 -1 2 0 0 0 0 0 -1 -1"))
	same(t, "in the zigzag", row, should)
}
