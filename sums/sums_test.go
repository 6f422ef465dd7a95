package sums_test

import (
	"bytes"
	"math"
	"testing"

	"scumble/sums"
)

// plainCrc does what the chapter says bit by bit.
func plainCrc(b []byte) int {
	rest := 0xffffffff
	for _, x := range b {
		rest ^= int(x)
		for range 8 {
			low := rest & 1
			rest >>= 1
			if low == 1 {
				rest ^= 0xedb88320
			}
		}
	}
	return rest ^ 0xffffffff
}

// plainAdler takes both remainders at each byte.
func plainAdler(b []byte) int {
	low, high := 1, 0
	for _, x := range b {
		low = (low + int(x)) % 65521
		high = (high + low) % 65521
	}
	return 65536*high + low
}

// draw is a row of numbers that looks without a rule, alike at each run.
type draw struct{ state uint32 }

func (d *draw) next(n int) int {
	d.state = d.state*1664525 + 1013904223
	return int(d.state>>8) % n
}

func (d *draw) bytes(n int) []byte {
	b := make([]byte, n)
	for i := range b {
		b[i] = byte(d.next(256))
	}
	return b
}

// want tells where a sum isn't this one.
func want(t *testing.T, call string, got int, should int) {
	t.Helper()
	if got != should {
		t.Errorf("%s: %#x, not %#x", call, got, should)
	}
}

// sumsAre tells where the sums of b, in one part, aren't those by the plain ways.
func sumsAre(t *testing.T, b []byte) {
	t.Helper()
	if got, should := sums.Crc(b), plainCrc(b); got != should {
		t.Errorf("Crc of %d bytes: %#x, not %#x", len(b), got, should)
	}
	if got, should := sums.Adler(b), plainAdler(b); got != should {
		t.Errorf("Adler of %d bytes: %#x, not %#x", len(b), got, should)
	}
}

func TestExamplesOfTheChapter(t *testing.T) {
	want(t, "Crc", sums.Crc([]byte("123456789")), 0xcbf43926)
	want(t, "Adler", sums.Adler([]byte("Wikipedia")), 0x11e60398)
	want(t, "Crc of nothing", sums.Crc(), 0)
	want(t, "Adler of nothing", sums.Adler(), 1)
}

// Values from elsewhere: the ends of a PNG, and a record of nothing.
func TestKnownSums(t *testing.T) {
	want(t, "IEND", sums.Crc([]byte("IEND")), 0xae426082)
	want(t, "four noughts", sums.Crc(make([]byte, 4)), 0x2144df1c)
	want(t, "a", sums.Crc([]byte("a")), 0xe8b7be43)
	want(t, "a", sums.Adler([]byte("a")), 0x00620062)
	want(t, "abc", sums.Adler([]byte("abc")), 0x024d0127)
}

func TestNothingInSeveralParts(t *testing.T) {
	for _, parts := range [][][]byte{nil, {}, {nil}, {{}}, {nil, {}, nil}} {
		want(t, "Crc of nothing", sums.Crc(parts...), 0)
		want(t, "Adler of nothing", sums.Adler(parts...), 1)
	}
}

func TestEachByteAlone(t *testing.T) {
	for x := range 256 {
		sumsAre(t, []byte{byte(x)})
		sumsAre(t, []byte{255, byte(x), 0, byte(x)})
	}
}

func TestSumsOfEachLength(t *testing.T) {
	b := (&draw{1}).bytes(600)
	for n := range b {
		sumsAre(t, b[:n])
		sumsAre(t, b[len(b)-n:])
	}
}

// Lengths about those at which remainders may be taken late, with the
// greatest bytes, so that what isn't taken in time runs over.
func TestSumsOfLongTexts(t *testing.T) {
	full := bytes.Repeat([]byte{255}, 1<<22+3)
	for _, n := range []int{4096, 5552, 65521, 1 << 16, 1 << 17, 3 << 16, 1 << 20, 1 << 22} {
		for more := -1; more <= 2; more++ {
			sumsAre(t, full[:n+more])
		}
	}
	sumsAre(t, make([]byte, 1<<20))
	sumsAre(t, (&draw{2}).bytes(1<<20+7))
}

// Both numbers of an Adler at the edge of what they are taken modulo.
func TestAdlerAtItsPrime(t *testing.T) {
	for n := 250; n < 265; n++ {
		b := bytes.Repeat([]byte{255}, n)
		for _, x := range []byte{0, 1, 239, 240, 241, 254, 255} {
			sumsAre(t, append(b, x))
			sumsAre(t, append(b, x, 0, 0, 0))
		}
	}
	// The first number begins with 1: 1 + 256 * 255 + 239 is 65520.
	b := append(bytes.Repeat([]byte{255}, 256), 239)
	want(t, "below the prime", sums.Adler(b)&0xffff, 65520)
	want(t, "at the prime", sums.Adler(b, []byte{1})&0xffff, 0)
	want(t, "above the prime", sums.Adler(b, []byte{2})&0xffff, 1)
}

func TestPartsAreOneBehindTheOther(t *testing.T) {
	d := &draw{3}
	for range 300 {
		b := d.bytes(d.next(300))
		var parts [][]byte
		for rest := b; len(rest) > 0; {
			n := d.next(len(rest) + 1)
			parts = append(parts, rest[:n])
			rest = rest[n:]
		}
		parts = append(parts, nil)
		want(t, "Crc of parts", sums.Crc(parts...), plainCrc(b))
		want(t, "Adler of parts", sums.Adler(parts...), plainAdler(b))
	}
	one := []byte("abc")
	want(t, "Crc of one part twice", sums.Crc(one, one), plainCrc([]byte("abcabc")))
	want(t, "Adler of one part twice", sums.Adler(one, one), plainAdler([]byte("abcabc")))
}

func TestPartsAreNotChanged(t *testing.T) {
	room := []byte("abcdef.....")
	parts := [][]byte{room[:3], room[3:6], nil}[:2]
	sums.Crc(parts...)
	sums.Adler(parts...)
	sums.CrcMore(5, room[:3])
	sums.AdlerMore(5, room[:3])
	if string(room) != "abcdef....." || parts[:3][2] != nil || string(parts[0]) != "abc" || string(parts[1]) != "def" {
		t.Errorf("%q, %q", room, parts[:3])
	}
}

func TestMoreAtEachPlace(t *testing.T) {
	b := (&draw{4}).bytes(300)
	for n := range len(b) + 1 {
		want(t, "CrcMore", sums.CrcMore(plainCrc(b[:n]), b[n:]), plainCrc(b))
		want(t, "AdlerMore", sums.AdlerMore(plainAdler(b[:n]), b[n:]), plainAdler(b))
	}
	crc, adler := 0, 1
	for i := range b {
		crc, adler = sums.CrcMore(crc, b[i:i+1]), sums.AdlerMore(adler, b[i:i+1])
		want(t, "CrcMore of one byte", crc, plainCrc(b[:i+1]))
		want(t, "AdlerMore of one byte", adler, plainAdler(b[:i+1]))
	}
}

func TestMoreOfNothing(t *testing.T) {
	for _, sum := range []int{0, 1, 0x7fffffff, 0x80000000, 0xcbf43926, 0xffffffff} {
		want(t, "CrcMore of nothing", sums.CrcMore(sum, nil), sum)
		want(t, "CrcMore of nothing", sums.CrcMore(sum, []byte{}), sum)
	}
	for _, sum := range []int{0, 1, 65520, 65520 << 16, 65520<<16 + 65520, 0x11e60398} {
		want(t, "AdlerMore of nothing", sums.AdlerMore(sum, nil), sum)
		want(t, "AdlerMore of nothing", sums.AdlerMore(sum, []byte{}), sum)
	}
}

// The greatest sums go on as well as others do.
func TestMoreOfTheGreatestSums(t *testing.T) {
	// A text of these four bytes has the greatest Crc.
	text := []byte{255, 255, 255, 255}
	want(t, "Crc", sums.Crc(text), 0xffffffff)
	want(t, "CrcMore", sums.CrcMore(0xffffffff, []byte("abc")), plainCrc([]byte("\xff\xff\xff\xffabc")))
	want(t, "AdlerMore", sums.AdlerMore(65520<<16+65520, []byte{0}), 65519<<16+65520)
	want(t, "AdlerMore", sums.AdlerMore(65520<<16+65520, []byte{1}), 65520<<16)
	want(t, "AdlerMore", sums.AdlerMore(65520<<16+65520, []byte{2, 255}), 256<<16+256)
	want(t, "AdlerMore", sums.AdlerMore(65520<<16, []byte{0}), 65520<<16)
}

// Of these nothing is promised, but that the calls end.
func TestMoreOfWhatIsNoSum(t *testing.T) {
	for _, sum := range []int{-1, math.MinInt, math.MaxInt, 1 << 32, 65521, 0xffff, 0xffffffff} {
		for _, b := range [][]byte{nil, []byte("abc"), make([]byte, 1<<17)} {
			sums.CrcMore(sum, b)
			sums.AdlerMore(sum, b)
			sums.CrcJoin(sum, len(b), 5)
			sums.CrcJoin(len(b), sum, 5)
		}
	}
}
