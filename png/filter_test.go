package png_test

import (
	"math"
	"strings"
	"testing"

	"scumble/png"
)

// goes tells where a line hasn't these bytes with a filter, or these aren't the line's.
func goes(t *testing.T, kind int, line string, above string, should string) {
	t.Helper()
	if got := string(png.Filter(kind, []byte(line), []byte(above))); got != should {
		t.Errorf("Filter %d of %s below %s: %s, not %s", kind, quoted(line), quoted(above), quoted(got), quoted(should))
	}
	if got := string(png.Unfilter(kind, []byte(should), []byte(above))); got != line {
		t.Errorf("Unfilter %d of %s below %s: %s, not %s", kind, quoted(should), quoted(above), quoted(got), quoted(line))
	}
}

func TestFilterOfTheExample(t *testing.T) {
	line := "\x10\x20\x30\x40\x11\x21\x31\x41"
	for _, above := range []string{strings.Repeat("\x00", 8), "abcdefgh", strings.Repeat("\xff", 8)} {
		goes(t, 1, line, above, "\x10\x20\x30\x40\x01\x01\x01\x01")
	}
}

func TestFiltersByHand(t *testing.T) {
	line, above := "\x00\x01\xff\x80\x05\xff\xff\x00", "\x01\x02\xff\x00\xff\x03\xff\x07"
	goes(t, 0, line, above, line)
	goes(t, 1, line, above, "\x00\x01\xff\x80\x05\xfe\x00\x80")
	goes(t, 2, line, above, "\xff\xff\x00\x80\x06\xfc\x00\xf9")
	// Of b alone; then (0 + 255) / 2, (1 + 3) / 2, (255 + 255) / 2, (128 + 7) / 2.
	goes(t, 3, line, above, "\x00\x00\x80\x80\x86\xfd\x00\xbd")
	// Of b alone; then of 254: b; of 2: c; of 255: a; of 135: a.
	goes(t, 4, line, above, "\xff\xff\x00\x80\x06\xfd\x00\x80")
}

// Where two are as near the first one of a, b, c counts.
func TestNearestOfTwoThatAreAsNear(t *testing.T) {
	for _, x := range []struct{ a, b, c, taken byte }{
		{10, 14, 12, 12}, {10, 10, 10, 10}, {10, 20, 10, 20}, {20, 10, 10, 20}, {10, 16, 14, 10}, {16, 10, 14, 10},
		// To 9: a is as far as c. To 6: b is as far as c. To 11: a is as far as b.
		{6, 15, 12, 6}, {12, 3, 9, 3}, {11, 11, 11, 11}, {0, 255, 0, 255}, {255, 255, 0, 255}, {0, 0, 255, 0},
	} {
		line := []byte{x.a, 0, 0, 0, 0, 0, 0, 0}
		above := []byte{x.c, 0, 0, 0, x.b, 0, 0, 0}
		got := png.Filter(4, line, above)
		same(t, "what is taken", -got[4], x.taken)
		same(t, "what is taken, by the plain way", plainTake(4, int(x.a), int(x.b), int(x.c)), int(x.taken))
	}
}

// All threes: a line of one byte, below two bytes by turns.
func TestFiltersOfAllThrees(t *testing.T) {
	line, above := make([]byte, 512), make([]byte, 512)
	for a := range 256 {
		for i := range line {
			line[i] = byte(a)
		}
		for c := range 256 {
			for i := range above {
				above[i] = byte(c)
				if i/4%2 == 1 {
					above[i] = byte(i/8*4 + i%4)
				}
			}
			nearest := png.Filter(4, line, above)
			back := png.Unfilter(4, nearest, above)
			mean := png.Filter(3, line, above)
			for i := 4; i < len(line); i++ {
				b, corner := int(above[i]), int(above[i-4])
				if nearest[i] != byte(a-plainTake(4, a, b, corner)) || back[i] != byte(a) || mean[i] != byte(a-plainTake(3, a, b, corner)) {
					t.Fatalf("%d, %d, %d: %d, %d, %d", a, b, corner, nearest[i], back[i], mean[i])
				}
			}
		}
	}
}

func TestFiltersAgainstThePlainWay(t *testing.T) {
	d := &draw{1}
	for round := range 2000 {
		n := round % 45
		line, above := d.text(n), d.text(n)
		for kind := range 5 {
			goes(t, kind, line, above, plainFilter(kind, line, above))
			same(t, "both plain ways", plainUnfilter(kind, plainFilter(kind, line, above), above), line)
			// Any bytes are those of some line with the filter.
			goes(t, kind, plainUnfilter(kind, line, above), above, line)
		}
	}
}

func TestFiltersOfLongLines(t *testing.T) {
	d := &draw{2}
	line, above := d.text(4<<15), d.text(4<<15)
	for kind := range 5 {
		b := png.Filter(kind, []byte(line), []byte(above))
		same(t, "how many bytes", len(b), len(line))
		if string(png.Unfilter(kind, b, []byte(above))) != line {
			t.Errorf("a long line isn't gone back to from filter %d", kind)
		}
	}
}

// nothing tells where a filter answers anything.
func nothing(t *testing.T, kind int, line []byte, above []byte) {
	t.Helper()
	if b := png.Filter(kind, line, above); len(b) != 0 {
		t.Errorf("Filter %d of %d below %d: %x", kind, len(line), len(above), b)
	}
	if b := png.Unfilter(kind, line, above); len(b) != 0 {
		t.Errorf("Unfilter %d of %d below %d: %x", kind, len(line), len(above), b)
	}
}

func TestKindsThatThereAreNot(t *testing.T) {
	for _, kind := range []int{-1, 5, 6, 7, 8, 255, 256, 257, 260, -252, 1 << 32, 1<<32 + 1, math.MaxInt, math.MinInt} {
		for _, n := range []int{0, 1, 4, 8, 9} {
			nothing(t, kind, make([]byte, n), make([]byte, n))
			nothing(t, kind, []byte("abcdefghi")[:n], []byte("123456789")[:n])
			nothing(t, kind, make([]byte, n), make([]byte, n+1))
		}
	}
}

func TestLinesOfTwoLengths(t *testing.T) {
	for kind := range 5 {
		for n := range 10 {
			for m := range 10 {
				if n != m {
					nothing(t, kind, []byte("abcdefghi")[:n], []byte("123456789")[:m])
				}
			}
		}
		nothing(t, kind, nil, nil)
		nothing(t, kind, []byte{}, nil)
		nothing(t, kind, nil, []byte{})
		nothing(t, kind, []byte("abcd"), nil)
		nothing(t, kind, nil, []byte("abcd"))
	}
}
