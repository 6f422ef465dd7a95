package dct_test

import (
	"math"
	"math/big"
	"strconv"
	"strings"
	"testing"
)

// The chapter's words told again, sum by sum and quotient by quotient.

func same[T comparable](t *testing.T, what string, got T, should T) {
	t.Helper()
	if got != should {
		t.Errorf("%s: %v, not %v", what, got, should)
	}
}

// down is a quotient rounded down.
func down(n int, d int) int {
	q := n / d
	if q*d > n {
		q--
	}
	return q
}

// numbers are those of a text.
func numbers(text string) []int {
	var out []int
	for _, word := range strings.Fields(strings.ReplaceAll(text, ",", " ")) {
		n, fault := strconv.Atoi(word)
		if fault != nil {
			panic("no number: " + word)
		}
		out = append(out, n)
	}
	return out
}

// block is a block whose numbers stand in a text.
func block(text string) [64]int { return [64]int(numbers(text)) }

// all is a block of one number.
func all(n int) [64]int {
	var out [64]int
	for i := range out {
		out[i] = n
	}
	return out
}

// only is a block that has one number other than 0.
func only(place int, n int) [64]int {
	var out [64]int
	out[place] = n
	return out
}

const rowC = "4096, 4017, 3784, 3406, 2896, 2276, 1567, 799, 0"

// plainC are c(k) for k below 32.
func plainC() [32]int {
	var c [32]int
	copy(c[:], numbers(rowC))
	for k := 9; k <= 16; k++ {
		c[k] = -c[16-k]
	}
	for k := 17; k < 32; k++ {
		c[k] = c[32-k]
	}
	return c
}

// plainWave is C(u, x).
func plainWave(u int, x int) int {
	if u == 0 {
		return 2896
	}
	return plainC()[(2*x+1)*u%32]
}

// plainWaves are C(u, x) by 8 u + x.
func plainWaves() [64]int {
	var out [64]int
	for i := range out {
		out[i] = plainWave(i/8, i%8)
	}
	return out
}

func plainForward(s [64]int) [64]int {
	w := plainWaves()
	var f [64]int
	for i := range f {
		u, v, sum := i%8, i/8, 1<<25
		for j, n := range s {
			sum += n * w[8*u+j%8] * w[8*v+j/8]
		}
		f[i] = down(sum, 1<<26)
	}
	return f
}

func plainBack(f [64]int) [64]int {
	w := plainWaves()
	var s [64]int
	for i := range s {
		x, y, sum := i%8, i/8, 1<<25
		for j, n := range f {
			sum += n * w[8*(j%8)+x] * w[8*(j/8)+y]
		}
		s[i] = down(sum, 1<<26)
	}
	return s
}

// longForward and longBack are the same in numbers of any length.
func longForward(s [64]int) [64]int {
	return longSums(s, func(f int, s int) int { return plainWave(f%8, s%8) * plainWave(f/8, s/8) })
}

func longBack(f [64]int) [64]int {
	return longSums(f, func(s int, f int) int { return plainWave(f%8, s%8) * plainWave(f/8, s/8) })
}

func longSums(block [64]int, weight func(to int, from int) int) [64]int {
	var out [64]int
	for i := range out {
		sum := big.NewInt(1 << 25)
		for j, n := range block {
			sum.Add(sum, new(big.Int).Mul(big.NewInt(int64(n)), big.NewInt(int64(weight(i, j)))))
		}
		// Div rounds down where what it divides by is above 0.
		out[i] = int(sum.Div(sum, big.NewInt(1<<26)).Int64())
	}
	return out
}

// plainZigzag goes from place to place: by slanting lines, and along the side where it meets one.
func plainZigzag() [64]int {
	var out [64]int
	u, v, upward := 0, 0, true
	for i := range out {
		out[i] = 8*v + u
		switch {
		case upward && u == 7:
			v, upward = v+1, false
		case upward && v == 0:
			u, upward = u+1, false
		case upward:
			u, v = u+1, v-1
		case v == 7:
			u, upward = u+1, true
		case u == 0:
			v, upward = v+1, true
		default:
			u, v = u-1, v+1
		}
	}
	return out
}

// parts is a quotient by 65536, rounded down; floats hold each of them.
func parts(n int) int { return int(math.Floor(float64(n) / 65536)) }

func cut(n int) int {
	if n < 0 {
		return 0
	} else if n > 255 {
		return 255
	}
	return n
}

func plainBright(p [3]int) [3]int {
	r, g, b := p[0], p[1], p[2]
	return [3]int{
		cut(parts(19595*r + 38470*g + 7471*b + 32768)),
		cut(parts(32768*b-11059*r-21709*g+32768) + 128),
		cut(parts(32768*r-27439*g-5329*b+32768) + 128),
	}
}

func plainColour(p [3]int) [3]int {
	y, b, r := p[0], p[1], p[2]
	return [3]int{
		cut(y + parts(91881*(r-128)+32768)),
		cut(y - parts(22554*(b-128)+46802*(r-128)+32768)),
		cut(y + parts(116130*(b-128)+32768)),
	}
}

// The chapter's tables, as they stand there.
const (
	tableOfBrightness = "16 11 10 16 24 40 51 61, 12 12 14 19 26 58 60 55, 14 13 16 24 40 57 69 56, 14 17 22 29 51 87 80 62, 18 22 37 56 68 109 103 77, 24 35 55 64 81 104 113 92, 49 64 78 87 103 121 120 101, 72 92 95 98 112 100 103 99"
	cornerOfColours   = "17 18 24 47, 18 21 26 66, 24 26 56 99, 47 66 99 99"
)

func plainTable(differences bool) [64]int {
	if !differences {
		return block(tableOfBrightness)
	}
	out := all(99)
	for i, n := range numbers(cornerOfColours) {
		out[i/4*8+i%4] = n
	}
	return out
}

func plainSteps(quality int, differences bool) [64]int {
	s := 200 - 2*quality
	if quality < 50 {
		s = down(5000, quality)
	}
	out := plainTable(differences)
	for i, t := range out {
		out[i] = int(math.Min(math.Max(float64(down(t*s+50, 100)), 1), 255))
	}
	return out
}

// plainInSteps is in numbers of any length.
func plainInSteps(f int, t int) int {
	n, step := big.NewInt(int64(f)), big.NewInt(int64(t))
	sign := n.Sign()
	n.Abs(n)
	n.Add(n, new(big.Int).Div(step, big.NewInt(2)))
	n.Div(n, step)
	return sign * int(n.Int64())
}

// draw is a row of numbers that looks without a rule, alike at each run.
type draw struct{ state uint64 }

func (d *draw) next(n int) int {
	d.state = d.state*6364136223846793005 + 1442695040888963407
	return int(d.state>>33) % n
}

// between is a drawn number from -n to n.
func (d *draw) between(n int) int { return d.next(2*n+1) - n }

// block is a drawn block of numbers from -n to n.
func (d *draw) block(n int) [64]int {
	var out [64]int
	for i := range out {
		out[i] = d.between(n)
	}
	return out
}
