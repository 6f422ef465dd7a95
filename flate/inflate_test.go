package flate_test

import (
	"bytes"
	"math"
	"slices"
	"strings"
	"testing"

	"scumble/api"
	"scumble/flate"
)

// inflates tells where a stream hasn't these bytes, or takes other bytes than
// its own; where it has them at less than so many, or without its end.
func inflates(t *testing.T, b []byte, should string) {
	t.Helper()
	for _, most := range []int{len(should), len(should) + 1, math.MaxInt} {
		for _, rest := range []string{"", "\x00", "\xff", "\x01\x00\x00\xff\xff", "\xff\xff\xff\xff\xff\xff\xff\xff"} {
			out, used, e := flate.Inflate(slices.Concat(b, []byte(rest)), most)
			if string(out) != should || used != len(b) || e != api.OK {
				t.Fatalf("%d bytes of %.20x, %d used, %d; not %d, %d", len(out), b, used, e, len(should), len(b))
			}
		}
	}
	if should != "" {
		fails(t, b, len(should)-1, api.ErrBig)
		fails(t, b, 0, api.ErrBig)
		fails(t, b, -1, api.ErrBig)
	}
	for n := 0; n < len(b); n += 1 + len(b)/200 {
		fails(t, b[:n], math.MaxInt, api.ErrEnd)
	}
	fails(t, b[:len(b)-1], math.MaxInt, api.ErrEnd)
}

// fails tells where a stream hasn't this error.
func fails(t *testing.T, b []byte, most int, should api.Errno) {
	t.Helper()
	if out, used, e := flate.Inflate(b, most); len(out) != 0 || used != 0 || e != should {
		t.Fatalf("%.40x, %d: %d bytes, %d used, %d; not %d", b, most, len(out), used, e, should)
	}
}

// failsAt tells where a stream hasn't this error with just these bits, whatever
// follows; or hasn't another one, of bits that lack, without the last one of
// them. Where it can, it has them begin at each of a byte's bits.
func failsAt(t *testing.T, d *draft, most int, should api.Errno) {
	t.Helper()
	for n := range 8 {
		if n > 0 && d.stays {
			return
		}
		moved := behind(n, d)
		b := moved.bytes()
		fails(t, b, most, should)
		fails(t, append(slices.Clone(b), 0, 0, 0, 0, 0, 0, 0, 0), most, should)
		fails(t, append(slices.Clone(b), 255, 255, 255, 255, 255, 255), most, should)
		if len(moved.bits)%8 == 1 {
			fails(t, b[:len(b)-1], most, api.ErrEnd)
		}
	}
}

// behind lays bits behind so many empty blocks, of 95 bits each.
func behind(blocks int, bits *draft) *draft {
	d := &draft{}
	for range blocks {
		d.begin(0, 2).num(0, 5).num(0, 5).own(listed(19, [2]int{18, 1}, [2]int{0, 2}, [2]int{1, 2}))
		d.code("0").num(138-11, 7).code("0").num(118-11, 7).code("11").code("10").code("0")
	}
	d.bits = append(d.bits, bits.bits...)
	return d
}

// lacking lays bits so that the last one of them would begin a byte, and is
// not there.
func lacking(bits *draft) []byte {
	n := 0
	for (95*n+len(bits.bits))%8 != 1 {
		n++
	}
	b := behind(n, bits).bytes()
	return b[:len(b)-1]
}

// agrees tells where a stream isn't read as the plain way reads it.
func agrees(t *testing.T, b []byte, most int) (used int, e api.Errno) {
	t.Helper()
	out, used, e := flate.Inflate(b, most)
	wantOut, wantUsed, wantE := plainInflate(b, most)
	if !bytes.Equal(out, wantOut) || used != wantUsed || e != wantE {
		t.Fatalf("%.60x, %d: %d bytes, %d used, %d; not %d, %d, %d", b, most, len(out), used, e, len(wantOut), wantUsed, wantE)
	}
	return used, e
}

func TestInflateOfTheExamples(t *testing.T) {
	inflates(t, []byte{0x03, 0x00}, "")
	inflates(t, []byte{0x4b, 0x04, 0x00}, "a")
	inflates(t, []byte{0x01, 0x01, 0x00, 0xfe, 0xff, 0x61}, "a")
}

func TestInflateOfNothing(t *testing.T) {
	for _, most := range []int{0, -1, 5, math.MinInt, math.MaxInt} {
		fails(t, nil, most, api.ErrEnd)
		fails(t, []byte{}, most, api.ErrEnd)
	}
}

func TestMostBelowNoughtIsNought(t *testing.T) {
	for _, most := range []int{0, -1, -2, math.MinInt} {
		for _, b := range [][]byte{{0x03, 0x00}, {0x01, 0, 0, 0xff, 0xff}} {
			if out, used, e := flate.Inflate(b, most); len(out) != 0 || used != len(b) || e != api.OK {
				t.Errorf("%x, %d: %x, %d, %d", b, most, out, used, e)
			}
		}
		fails(t, []byte{0x4b, 0x04, 0x00}, most, api.ErrBig)
		fails(t, []byte{0x01, 0x01, 0x00, 0xfe, 0xff, 0x61}, most, api.ErrBig)
	}
}

func TestKindThree(t *testing.T) {
	failsAt(t, (&draft{}).begin(0, 3), 0, api.ErrForm)
	failsAt(t, (&draft{}).begin(1, 3), 0, api.ErrForm)
	failsAt(t, (&draft{}).plain(0, "abc").begin(0, 3), 3, api.ErrForm)
}

func TestPlainBlocks(t *testing.T) {
	long := string((&draw{1}).text(65535, 256))
	for _, n := range []int{0, 1, 2, 255, 256, 257, 4096, 65534, 65535} {
		inflates(t, (&draft{}).plain(1, long[:n]).bytes(), long[:n])
	}
	inflates(t, (&draft{}).plain(0, "ab").plain(0, "").plain(0, "cde").plain(1, "f").bytes(), "abcdef")
	inflates(t, (&draft{}).plain(0, "ab").plain(1, "").bytes(), "ab")
}

// Where a plain block begins, the bits up to a byte's first are any.
func TestPlainBlocksAtEachBit(t *testing.T) {
	k := fixedBook()
	for ahead := range 9 {
		for _, bit := range []int{0, 1} {
			text := strings.Repeat("\x90", ahead)
			d := (&draft{}).begin(0, 1).text(k, text).end(k).begin(1, 0).fill(bit)
			d.num(2, 16).num(65533, 16).num('x', 8).num('y', 8)
			inflates(t, d.bytes(), text+"xy")
		}
	}
}

func TestPlainLengthsAndTheirTwins(t *testing.T) {
	for _, n := range []int{0, 1, 5, 255, 256, 32768, 65534, 65535} {
		for bit := range 16 {
			twin := 65535 - n ^ 1<<bit
			d := (&draft{}).begin(1, 0).fill(0).num(n, 16).num(twin, 16)
			// Ahead of the bytes' number, and of their lack.
			fails(t, d.bytes(), 0, api.ErrForm)
			fails(t, d.bytes(), math.MaxInt, api.ErrForm)
			fails(t, d.bytes()[:4], 0, api.ErrEnd)
			fails(t, d.bytes()[:3], 0, api.ErrEnd)
			fails(t, d.bytes()[:2], 0, api.ErrEnd)
			fails(t, d.bytes()[:1], 0, api.ErrEnd)
		}
	}
	fails(t, []byte{1, 5, 0, 5, 0}, 9, api.ErrForm)
	fails(t, []byte{1, 0, 5, 0xff, 0xfa}, 9, api.ErrBig)
}

// A plain block is too big as a whole, whether its bytes are there or not.
func TestPlainBlocksThatAreTooBig(t *testing.T) {
	d := (&draft{}).plain(0, "abc").plain(1, "defgh").bytes()
	for most := range 8 {
		fails(t, d, most, api.ErrBig)
		if most >= 3 {
			fails(t, d[:len(d)-1], most, api.ErrBig)
			fails(t, d[:len(d)-5], most, api.ErrBig)
			fails(t, d[:len(d)-6], most, api.ErrEnd)
		}
	}
	fails(t, d[:len(d)-1], 8, api.ErrEnd)
	fails(t, d[:len(d)-5], 8, api.ErrEnd)
	fails(t, d[:7], 2, api.ErrBig)
	fails(t, d[:5], 2, api.ErrBig)
	fails(t, d[:5], 3, api.ErrEnd)
}

func TestFixedLiterals(t *testing.T) {
	k := fixedBook()
	all := ""
	for x := range 256 {
		text := string([]byte{byte(x)})
		all += text
		inflates(t, (&draft{}).begin(1, 1).text(k, text).end(k).bytes(), text)
	}
	inflates(t, (&draft{}).begin(1, 1).text(k, all).end(k).bytes(), all)
	inflates(t, (&draft{}).begin(0, 1).text(k, all).end(k).begin(0, 1).end(k).begin(1, 1).text(k, "!").end(k).bytes(), all+"!")
}

// copied is a text and the copy behind it.
func copied(b string, length int, distance int) string {
	source := b[len(b)-distance:]
	return b + strings.Repeat(source, length/distance+1)[:length]
}

func TestCopiesOfEachLength(t *testing.T) {
	k := fixedBook()
	for length := 3; length <= 258; length++ {
		for _, distance := range []int{1, 3, 4} {
			d := (&draft{}).begin(1, 1).text(k, "abcd").copy(k, length, distance).end(k)
			inflates(t, d.bytes(), copied("abcd", length, distance))
		}
	}
	// The length 258 by the symbol ahead of its own, too.
	d := (&draft{}).begin(1, 1).text(k, "abcd").code(k.literals[284]).num(31, 5).code(k.distances[3]).end(k)
	inflates(t, d.bytes(), copied("abcd", 258, 4))
}

// Copies from the first, second and last distance of each symbol, from ahead
// of the block they stand in.
func TestCopiesFromEachDistance(t *testing.T) {
	k := fixedBook()
	text := string((&draw{2}).text(32768, 256))
	for s, least := range distanceBases {
		for _, distance := range []int{least, least + 1, least + 1<<distanceExtras[s] - 1} {
			if distance > 32768 {
				continue
			}
			d := (&draft{}).plain(0, text).begin(1, 1).copy(k, 5, distance).end(k)
			out, _, e := flate.Inflate(d.bytes(), 40000)
			if string(out) != copied(text, 5, distance) || e != api.OK {
				t.Errorf("distance %d: %d bytes, %d", distance, len(out), e)
			}
		}
	}
}

func TestCopiesAheadOfTheFirstByte(t *testing.T) {
	k := fixedBook()
	for ahead := range 20 {
		text := strings.Repeat("x", ahead)
		for _, more := range []int{1, 2, 30, 32768 - ahead} {
			d := (&draft{}).begin(1, 1).text(k, text).copy(k, 3, ahead+more)
			failsAt(t, d, math.MaxInt, api.ErrData)
			// Ahead of where it would be too big.
			failsAt(t, d, ahead, api.ErrData)
			split := (&draft{}).plain(0, text).begin(1, 1).copy(k, 3, ahead+more)
			failsAt(t, split, ahead, api.ErrData)
		}
		if ahead > 0 {
			inflates(t, (&draft{}).begin(1, 1).text(k, text).copy(k, 3, ahead).end(k).bytes(), text+"xxx")
		}
	}
	failsAt(t, (&draft{}).plain(0, strings.Repeat("x", 32767)).begin(1, 1).copy(k, 3, 32768), 40000, api.ErrData)
}

// A copy is too big as a whole, behind all of its bits.
func TestCopiesThatAreTooBig(t *testing.T) {
	k := fixedBook()
	for _, length := range []int{3, 10, 11, 12, 100, 257, 258} {
		d := (&draft{}).begin(1, 1).text(k, "ab").copy(k, length, 2)
		for _, most := range []int{2, 3, length, length + 1} {
			failsAt(t, d, most, api.ErrBig)
		}
		inflates(t, d.end(k).bytes(), copied("ab", length, 2))
	}
}

func TestLiteralsThatAreTooBig(t *testing.T) {
	k := fixedBook()
	for most := range 5 {
		failsAt(t, (&draft{}).begin(1, 1).text(k, "abcde"[:most+1]), most, api.ErrBig)
		failsAt(t, (&draft{}).plain(0, "abcde"[:most]).begin(1, 1).text(k, "z"), most, api.ErrBig)
	}
}

func TestSymbolsWithoutMeaning(t *testing.T) {
	k := fixedBook()
	for _, s := range []int{286, 287} {
		failsAt(t, (&draft{}).begin(1, 1).code(k.literals[s]), 9, api.ErrForm)
		failsAt(t, (&draft{}).begin(1, 1).text(k, "ab").code(k.literals[s]), 2, api.ErrForm)
	}
	for _, s := range []int{30, 31} {
		for _, text := range []string{"", "a", "abcdef"} {
			d := (&draft{}).begin(1, 1).text(k, text).code(k.literals[257]).code(k.distances[s])
			failsAt(t, d, len(text), api.ErrForm)
			d = (&draft{}).begin(1, 1).text(k, text).code(k.literals[284]).num(31, 5).code(k.distances[s])
			failsAt(t, d, len(text), api.ErrForm)
		}
	}
}

// Of a copy's parts each one's bits may lack, and what is ahead of them isn't
// yet wrong.
func TestCopiesWithoutTheirBits(t *testing.T) {
	k := fixedBook()
	for s, extra := range lengthExtras {
		d := (&draft{}).begin(1, 1).code(k.literals[257+s]).num(0, extra)
		fails(t, lacking(d), 0, api.ErrEnd)
		failsAt(t, d.code(k.distances[0]), 0, api.ErrData)
	}
	for s, extra := range distanceExtras {
		d := (&draft{}).begin(1, 1).code(k.literals[257]).code(k.distances[s])
		fails(t, lacking(d), 0, api.ErrEnd)
		failsAt(t, d.num(0, extra), 0, api.ErrData)
	}
}

func TestInflateSharesNothing(t *testing.T) {
	k := fixedBook()
	for _, d := range []*draft{
		(&draft{}).plain(1, "abcabcabc"),
		(&draft{}).begin(1, 1).text(k, "abc").copy(k, 6, 3).end(k),
	} {
		room := append(d.bytes(), "rest"...)
		before := slices.Clone(room)
		b := room[:len(room)-4]
		first, _, _ := flate.Inflate(b, 9)
		second, _, _ := flate.Inflate(b, 9)
		if !bytes.Equal(room, before) {
			t.Errorf("%x became %x", before, room)
		}
		clear(room)
		clear(first[:cap(first)])
		if string(second) != "abcabcabc" {
			t.Errorf("%q", second)
		}
	}
}

func TestInflateOfPackedElsewhere(t *testing.T) {
	d := &draw{3}
	texts := [][]byte{nil, []byte("a"), make([]byte, 100000), d.text(70000, 256), d.text(70000, 3), d.again(200000, 256, 300, 40000), d.again(100000, 4, 20, 300)}
	for _, text := range texts {
		for level := -2; level <= 9; level++ {
			b := packedElsewhere(t, text, level)
			out, used, e := flate.Inflate(b, len(text))
			if !bytes.Equal(out, text) || used != len(b) || e != api.OK {
				t.Errorf("level %d of %d bytes: %d, %d, %d", level, len(text), len(out), used, e)
			}
		}
	}
}

// All streams of up to two bytes, and some of their bytes thrice.
func TestInflateOfAllShortStreams(t *testing.T) {
	for x := range 256 {
		agrees(t, []byte{byte(x)}, 9)
		for y := range 256 {
			b := []byte{byte(x), byte(y)}
			agrees(t, b, y%2)
			if x%4 == 3 || y%32 == 0 {
				agrees(t, bytes.Repeat(b, 3), 3)
			}
		}
	}
}

func TestInflateOfDrawnStreams(t *testing.T) {
	d := &draw{4}
	for range 20000 {
		b := d.text(1+d.next(40), 256)
		if d.next(2) == 0 {
			b[0] = b[0]&^7 | 2 | byte(d.next(2))
		}
		agrees(t, b, d.next(30))
	}
}

// Streams of which a few bits are turned, or bytes lack.
func TestInflateOfSpoiledStreams(t *testing.T) {
	d := &draw{5}
	faults := map[api.Errno]int{}
	for round := range 1000 {
		text := d.again(1+d.next(2000), 1+d.next(256), 3+d.next(30), 1+d.next(500))
		b := packedElsewhere(t, text, d.next(12)-2)
		if round%2 == 0 {
			b = flate.Deflate(text, d.next(12)-2)
		}
		agrees(t, b, len(text)-d.next(2))
		for range 1 + d.next(3) {
			b[d.next(1+d.next(len(b)))] ^= 1 << d.next(8)
		}
		b = b[:len(b)-d.next(2)*d.next(len(b))]
		_, e := agrees(t, b, len(text)+d.next(200)-20)
		faults[e]++
	}
	for _, e := range []api.Errno{api.OK, api.ErrEnd, api.ErrForm, api.ErrCode, api.ErrData, api.ErrBig} {
		if faults[e] == 0 {
			t.Errorf("no stream had %d", e)
		}
	}
}
