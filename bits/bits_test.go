package bits_test

import (
	"math"
	"testing"

	"scumble/api"
	"scumble/bits"
)

// put is one number, and with how many bits it is written.
type put struct{ v, n int }

// written is a writer with these numbers.
func written(t *testing.T, high bool, all ...put) *bits.Writer {
	t.Helper()
	w := bits.New(high)
	for _, x := range all {
		if !w.Put(x.v, x.n) {
			t.Fatalf("Put(%d, %d) is false", x.v, x.n)
		}
	}
	return w
}

// holds tells where a writer hasn't just these bits.
func holds(t *testing.T, w *bits.Writer, count int, want string) {
	t.Helper()
	if w.Count() != count || string(w.Bytes()) != want {
		t.Errorf("Count %d, %x; not %d, %x", w.Count(), w.Bytes(), count, want)
	}
}

// gives tells where the next n bits aren't this number.
func gives(t *testing.T, r *bits.Reader, n int, v int) {
	t.Helper()
	at, left := r.At(), r.Left()
	got, ok := r.Get(n)
	if got != v || !ok || r.At() != at+n || r.Left() != left-n {
		t.Errorf("Get(%d): %d, %v, At %d, Left %d; not %d, At %d, Left %d", n, got, ok, r.At(), r.Left(), v, at+n, left-n)
	}
}

// refuses tells where n bits are read all the same, or others passed over.
func refuses(t *testing.T, r *bits.Reader, n int) {
	t.Helper()
	at, left := r.At(), r.Left()
	if got, ok := r.Get(n); got != 0 || ok || r.At() != at || r.Left() != left {
		t.Errorf("Get(%d): %d, %v, At %d, Left %d; not 0, false, %d, %d", n, got, ok, r.At(), r.Left(), at, left)
	}
}

func TestExamplesOfTheChapter(t *testing.T) {
	for _, x := range []struct {
		high bool
		want string
	}{{false, "\x2d"}, {true, "\xd4"}} {
		w := written(t, x.high, put{1, 1}, put{2, 2}, put{5, 3})
		holds(t, w, 6, x.want)
		r := bits.Open(w.Bytes(), x.high)
		gives(t, r, 1, 1)
		gives(t, r, 2, 2)
		gives(t, r, 3, 5)
		gives(t, r, 2, 0)
		refuses(t, r, 1)
	}
}

// A code's bits, highest first, are the same written High or, Low, one by one.
func TestACodeBitByBit(t *testing.T) {
	low := written(t, false, put{1, 1}, put{1, 1}, put{0, 1}, put{1, 1})
	holds(t, low, 4, "\x0b")
	high := written(t, true, put{13, 4})
	holds(t, high, 4, "\xd0")
}

func TestPutAcrossBytes(t *testing.T) {
	all := []put{{5, 3}, {0x2345, 16}, {0, 0}, {5, 3}}
	holds(t, written(t, false, all...), 22, "\x2d\x1a\x29")
	holds(t, written(t, true, all...), 22, "\xa4\x68\xb4")
	holds(t, written(t, false, put{0x123456, 24}, put{0xabcdef, 24}), 48, "\x56\x34\x12\xef\xcd\xab")
	holds(t, written(t, true, put{0x123456, 24}, put{0xabcdef, 24}), 48, "\x12\x34\x56\xab\xcd\xef")
}

func TestPutOfWrongNumbers(t *testing.T) {
	most, least := math.MaxInt, math.MinInt
	for _, high := range []bool{false, true} {
		w := written(t, high, put{1, 1})
		for _, x := range []put{
			{0, -1}, {0, api.MaxBits + 1}, {0, 63}, {0, 64}, {1, 65}, {0, most}, {0, least}, {-1, -1},
			{1, 0}, {-1, 0}, {2, 1}, {-1, 1}, {-1, 24}, {8, 3}, {256, 8}, {1 << 24, 24}, {most, 24}, {least, 24}, {least, 0}, {most, most},
		} {
			if w.Put(x.v, x.n) {
				t.Errorf("Put(%d, %d) is true", x.v, x.n)
			}
			if w.Count() != 1 {
				t.Fatalf("Put(%d, %d) wrote", x.v, x.n)
			}
		}
		for _, x := range []put{{0, 0}, {1, 1}, {7, 3}, {255, 8}, {1<<24 - 1, api.MaxBits}} {
			if !w.Put(x.v, x.n) {
				t.Errorf("Put(%d, %d) is false", x.v, x.n)
			}
		}
		want := "\xff\xff\xff\xff\x1f"
		if high {
			want = "\xff\xff\xff\xff\xf8"
		}
		holds(t, w, 37, want)
	}
}

func TestAWriterWithNothing(t *testing.T) {
	for _, high := range []bool{false, true} {
		w := bits.New(high)
		holds(t, w, 0, "")
		w.Fill(1)
		holds(t, w, 0, "")
		if !w.Put(0, 0) {
			t.Error("Put(0, 0) is false")
		}
		holds(t, w, 0, "")
	}
}

func TestFill(t *testing.T) {
	for _, x := range []struct {
		bit       int
		low, high string
	}{
		{0, "\x05", "\xa0"}, {1, "\xfd", "\xbf"}, {2, "\x05", "\xa0"}, {3, "\xfd", "\xbf"}, {-1, "\xfd", "\xbf"},
		{-2, "\x05", "\xa0"}, {math.MaxInt, "\xfd", "\xbf"}, {math.MinInt, "\x05", "\xa0"}, {math.MinInt + 1, "\xfd", "\xbf"},
	} {
		for _, high := range []bool{false, true} {
			want := x.low
			if high {
				want = x.high
			}
			w := written(t, high, put{5, 3})
			w.Fill(x.bit)
			holds(t, w, 8, want)
			w.Fill(x.bit + 1)
			holds(t, w, 8, want)
		}
	}
}

func TestFillFromEachBitOn(t *testing.T) {
	for n := 1; n <= 17; n++ {
		w := written(t, false, put{0, n})
		w.Fill(1)
		full := (n + 7) / 8
		want := make([]byte, full)
		for i := n; i < 8*full; i++ {
			want[i/8] |= 1 << (i % 8)
		}
		holds(t, w, 8*full, string(want))
	}
}

func TestBytesChangesNothing(t *testing.T) {
	for _, high := range []bool{false, true} {
		w, quiet := bits.New(high), bits.New(high)
		for i := range 60 {
			w.Put(i%8, 3)
			quiet.Put(i%8, 3)
			for range 2 {
				b := w.Bytes()
				for j := range cap(b) {
					b[:cap(b)][j] = '#'
				}
			}
		}
		holds(t, w, 180, string(quiet.Bytes()))
	}
}

func TestBytesIsNewMemory(t *testing.T) {
	for _, n := range []int{8, 11, 24} {
		w := written(t, false, put{1, n})
		one, two := w.Bytes(), w.Bytes()
		want := string(two)
		for i := range cap(one) {
			one[:cap(one)][i] = '#'
		}
		if string(two) != want {
			t.Errorf("two answers share: %x", two)
		}
		w.Fill(1)
		w.Put(255, 8)
		if string(two) != want {
			t.Errorf("the answer is %x now", two)
		}
	}
}

func TestGetAcrossBytes(t *testing.T) {
	b := []byte{0x12, 0x34, 0x56, 0x78, 0x9a}
	low := bits.Open(b, false)
	gives(t, low, 4, 2)
	gives(t, low, 24, 0x856341)
	gives(t, low, 1, 1)
	gives(t, low, 11, 0x4d3)
	high := bits.Open(b, true)
	gives(t, high, 4, 1)
	gives(t, high, 24, 0x234567)
	gives(t, high, 1, 1)
	gives(t, high, 11, 0x09a)
	refuses(t, low, 1)
	refuses(t, high, 1)
	gives(t, low, 0, 0)
	gives(t, high, 0, 0)
}

func TestGetOfWrongNumbers(t *testing.T) {
	for _, high := range []bool{false, true} {
		r := bits.Open([]byte("abcdefgh"), high)
		r.Get(5)
		for _, n := range []int{-1, api.MaxBits + 1, 32, 59, 64, math.MaxInt, math.MinInt} {
			refuses(t, r, n)
		}
		gives(t, bits.Open([]byte{255, 255, 255}, high), api.MaxBits, 1<<24-1)
	}
}

func TestGetOfMoreThanIsLeft(t *testing.T) {
	for _, high := range []bool{false, true} {
		r := bits.Open([]byte{0xff, 0xff}, high)
		refuses(t, r, 17)
		gives(t, r, 3, 7)
		refuses(t, r, 14)
		gives(t, r, 13, 1<<13-1)
		refuses(t, r, 1)
		gives(t, r, 0, 0)
	}
}

func TestAReaderOfNothing(t *testing.T) {
	for _, b := range [][]byte{nil, {}} {
		for _, high := range []bool{false, true} {
			r := bits.Open(b, high)
			r.Align()
			if r.At() != 0 || r.Left() != 0 {
				t.Errorf("At %d, Left %d", r.At(), r.Left())
			}
			refuses(t, r, 1)
			refuses(t, r, -1)
			gives(t, r, 0, 0)
		}
	}
}

func TestAlign(t *testing.T) {
	for _, high := range []bool{false, true} {
		for n := range 17 {
			r := bits.Open([]byte{1, 2, 3}, high)
			r.Get(n)
			for range 2 {
				r.Align()
				at := (n + 7) / 8 * 8
				if r.At() != at || r.Left() != 24-at {
					t.Errorf("behind %d bits: At %d, Left %d", n, r.At(), r.Left())
				}
			}
			gives(t, r, 8, r.At()/8+1)
		}
		r := bits.Open([]byte{0xff}, high)
		r.Get(1)
		r.Align()
		refuses(t, r, 1)
		r.Align()
		if r.At() != 8 || r.Left() != 0 {
			t.Errorf("at the end: At %d, Left %d", r.At(), r.Left())
		}
	}
}

func TestOpenKeepsNothingOfItsArgument(t *testing.T) {
	b := []byte{0x12, 0x34, 0x56}
	r := bits.Open(b[:2], true)
	b[0], b[1] = 0, 0
	gives(t, r, 16, 0x1234)
	refuses(t, r, 1)
	if b[2] != 0x56 {
		t.Errorf("the argument is %x now", b)
	}
}
