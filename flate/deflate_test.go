package flate_test

import (
	"bytes"
	"math"
	"slices"
	"strings"
	"testing"

	"scumble/api"
	"scumble/flate"
)

// efforts are some of all kinds.
var efforts = []int{math.MinInt, -1, 0, 1, 2, 3, 9, 100, math.MaxInt}

// room is how many bytes a stream of n bytes has at most.
func room(n int) int { return n + 5*(n/65535+1) }

// deflates tells where the stream of b isn't one of just these bytes, or is
// too long.
func deflates(t *testing.T, b []byte, effort int) []byte {
	t.Helper()
	s := flate.Deflate(b, effort)
	out, used, e := flate.Inflate(s, len(b))
	if !bytes.Equal(out, b) || used != len(s) || e != api.OK {
		t.Fatalf("effort %d: %d bytes became %d of %d, %d used, %d", effort, len(b), len(out), len(s), used, e)
	}
	if len(s) > room(len(b)) {
		t.Fatalf("effort %d: %d bytes in %d, more than %d", effort, len(b), len(s), room(len(b)))
	}
	return s
}

// deflatesAll tries all efforts, and has each stream read by others, too.
func deflatesAll(t *testing.T, b []byte) {
	t.Helper()
	for _, effort := range efforts {
		s := deflates(t, b, effort)
		if !bytes.Equal(readElsewhere(t, s), b) {
			t.Fatalf("effort %d: %d bytes are others elsewhere", effort, len(b))
		}
		if len(s) < 5000 {
			agrees(t, s, len(b))
		}
	}
}

func TestDeflateOfNothing(t *testing.T) {
	for _, effort := range efforts {
		for _, b := range [][]byte{nil, {}} {
			if s := deflates(t, b, effort); len(s) > 5 {
				t.Errorf("%x", s)
			}
		}
	}
}

func TestDeflateOfShortTexts(t *testing.T) {
	for x := range 256 {
		b := []byte{byte(x)}
		deflatesAll(t, b)
		deflates(t, []byte{byte(x), byte(x + 1)}, 9)
		for n := 2; n < 40; n += 1 + x%5 {
			deflates(t, bytes.Repeat(b, n), 9)
		}
	}
	for n := range 300 {
		b := (&draw{uint32(n)}).text(n, 1+n%256)
		for _, effort := range []int{0, 1, 9} {
			deflates(t, b, effort)
			deflates(t, b[:n/2], effort)
		}
	}
}

func TestDeflateOfDrawnTexts(t *testing.T) {
	d := &draw{8}
	for range 30 {
		deflatesAll(t, d.text(d.next(3000), 1+d.next(256)))
		deflatesAll(t, d.again(1+d.next(3000), 1+d.next(256), 3+d.next(300), 1+d.next(2000)))
	}
	for _, letters := range []int{1, 2, 4, 16, 100, 256} {
		b := d.again(100000, letters, 3+d.next(300), 40000)
		deflatesAll(t, b)
	}
}

// Copies of each length and from each distance's symbols are told as they are
// found.
func TestDeflateOfCopies(t *testing.T) {
	b := (&draw{9}).text(40000, 256)
	var all []byte
	for length := 3; length <= 260; length++ {
		all = slices.Concat(all, b[:length], []byte{byte(length), 1, byte(length + 7)})
	}
	deflatesAll(t, all)
	for _, distance := range append(slices.Clone(distanceBases), 32767, 32768, 32769) {
		for more := -1; more <= 1; more++ {
			text := slices.Concat(b[:distance+more], b[:min(20, distance+more)])
			deflates(t, text, 9)
		}
	}
}

// What can't be packed takes no more than plain blocks do.
func TestDeflateIsntTooLong(t *testing.T) {
	d := &draw{10}
	b := d.text(4*65535+10, 256)
	for _, n := range []int{0, 1, 2, 3, 100, 16383, 16384, 16385, 32768, 65535, 2 * 65535, 3 * 65535, 4 * 65535} {
		for more := -2; more <= 2; more++ {
			if n+more < 0 {
				continue
			}
			for _, effort := range []int{0, 1, 9} {
				s := deflates(t, b[:n+more], effort)
				if !bytes.Equal(readElsewhere(t, s), b[:n+more]) {
					t.Fatalf("%d bytes are others elsewhere", n+more)
				}
			}
		}
	}
	// Codes of 9 bits, were they fixed, and all bytes alike often.
	for n := range 1000 {
		text := make([]byte, n)
		for i := range text {
			text[i] = byte(144 + (i*i+i/112)%112)
		}
		deflates(t, text, 0)
		deflates(t, text, 1)
	}
}

// Some parts can't be packed, others can: plain blocks begin at each bit.
func TestDeflateOfMixedTexts(t *testing.T) {
	d := &draw{11}
	for range 6 {
		var b []byte
		for range 4 {
			b = append(b, d.text(10000+d.next(30000), 256)...)
			b = append(b, strings.Repeat("scumble ", d.next(4000))...)
			b = append(b, d.text(d.next(50000), 3)...)
		}
		for _, effort := range []int{0, 1, 9} {
			s := deflates(t, b, effort)
			if !bytes.Equal(readElsewhere(t, s), b) {
				t.Fatal("others elsewhere")
			}
		}
	}
}

func TestDeflateOfLongTexts(t *testing.T) {
	d := &draw{12}
	for _, n := range []int{1<<20 - 1, 1 << 20, 1<<20 + 1, 1<<21 + 65535} {
		deflates(t, make([]byte, n), 9)
		deflates(t, d.text(n, 256), 1)
	}
	b := d.again(3<<20+5, 256, 400, 32768)
	s := deflates(t, b, 2)
	if !bytes.Equal(readElsewhere(t, s), b) {
		t.Fatal("others elsewhere")
	}
}

// It packs: a run, what repeats, and letters that are few.
func TestDeflatePacks(t *testing.T) {
	d := &draw{13}
	for _, x := range []struct {
		b      []byte
		effort int
		most   int
	}{
		{make([]byte, 1000000), 1, 2000},
		{[]byte(strings.Repeat("the quick brown fox ", 5000)), 1, 1000},
		{[]byte(strings.Repeat("the quick brown fox ", 5000)), 9, 1000},
		{d.text(30000, 256), 9, 30005},
		{bytes.Repeat(d.text(30000, 256), 10), 9, 35000},
		{d.text(100000, 2), 0, 19000},
		{d.text(100000, 16), 0, 51000},
		{[]byte("a"), 9, 3},
		{nil, 9, 2},
	} {
		if s := deflates(t, x.b, x.effort); len(s) > x.most {
			t.Errorf("effort %d: %d bytes in %d, more than %d", x.effort, len(x.b), len(s), x.most)
		}
	}
}

// Each kind of block is the first one of some stream.
func TestDeflateWritesAllKinds(t *testing.T) {
	d := &draw{14}
	for kind, b := range [][]byte{d.text(1000, 256), []byte("abcabcabc"), d.text(5000, 5)} {
		if s := deflates(t, b, 9); s[0]>>1&3 != byte(kind) {
			t.Errorf("%d bytes: kind %d, not %d", len(b), s[0]>>1&3, kind)
		}
	}
}

// The lengths of codes that fit a text best would be above 15: each letter
// occurs about as often as all rarer ones, the block's end but once.
func TestDeflateOfSteepTexts(t *testing.T) {
	var b []byte
	for a, c, letter := 1, 2, 0; len(b) < 16000; a, c, letter = c, a+c, letter+1 {
		b = append(b, bytes.Repeat([]byte{byte(letter * 9)}, a)...)
	}
	deflatesAll(t, b[:16000])
	for i := range b {
		j := (i*7919 + 13) % len(b)
		b[i], b[j] = b[j], b[i]
	}
	deflatesAll(t, b)
}

func TestDeflateSharesNothing(t *testing.T) {
	for _, text := range []string{"abcabcabcabc", string((&draw{15}).text(300, 256)), string((&draw{16}).text(300, 2))} {
		whole := []byte(text + "rest")
		b := whole[:len(text)]
		first := flate.Deflate(b, 9)
		second := flate.Deflate(b, 9)
		if string(whole) != text+"rest" {
			t.Errorf("%x", whole)
		}
		if !bytes.Equal(first, second) {
			t.Error("two streams of one text")
		}
		clear(whole)
		clear(first[:cap(first)])
		if out, _, e := flate.Inflate(second, len(text)); string(out) != text || e != api.OK {
			t.Errorf("%q, %d", out, e)
		}
	}
}
