package flate_test

import (
	"bytes"
	"compress/zlib"
	"io"
	"math"
	"slices"
	"testing"

	"scumble/api"
	"scumble/flate"
)

// plainSum adds up as the chapter of sums says, in four bytes.
func plainSum(b []byte) []byte {
	low, high := 1, 0
	for _, x := range b {
		low = (low + int(x)) % 65521
		high = (high + low) % 65521
	}
	return []byte{byte(high >> 8), byte(high), byte(low >> 8), byte(low)}
}

// frame is a frame of a stream that has these bytes.
func frame(stream []byte, text string) []byte {
	return slices.Concat([]byte{0x78, 0x9c}, stream, plainSum([]byte(text)))
}

// unzips tells where a frame hasn't these bytes, or not at the most that just
// holds them.
func unzips(t *testing.T, b []byte, should string) {
	t.Helper()
	for _, most := range []int{len(should), len(should) + 1, math.MaxInt} {
		if out, e := flate.Unzip(b, most); string(out) != should || e != api.OK {
			t.Errorf("%.40x, %d: %d bytes, %d; not %d", b, most, len(out), e, len(should))
		}
	}
}

func refuses(t *testing.T, b []byte, most int, should api.Errno) {
	t.Helper()
	if out, e := flate.Unzip(b, most); len(out) != 0 || e != should {
		t.Errorf("%.40x, %d: %d bytes, %d; not %d", b, most, len(out), e, should)
	}
}

func TestUnzipOfTheExample(t *testing.T) {
	unzips(t, []byte{0x78, 0x9c, 0x4b, 0x04, 0x00, 0x00, 0x62, 0x00, 0x62}, "a")
}

func TestUnzipOfEachKind(t *testing.T) {
	unzips(t, frame([]byte{3, 0}, ""), "")
	unzips(t, frame((&draft{}).plain(0, "ab").plain(1, "c").bytes(), "abc"), "abc")
	k := fixedBook()
	unzips(t, frame((&draft{}).begin(1, 1).text(k, "abc").copy(k, 258, 3).end(k).bytes(), copied("abc", 258, 3)), copied("abc", 258, 3))
	literals, distances := some()
	k = toldBook(literals, distances)
	unzips(t, frame((&draft{}).told(1, literals, distances).text(k, "abba").end(k).bytes(), "abba"), "abba")
}

// Behind the stream the bits up to a byte's first are any.
func TestUnzipOfAnyBitsBehind(t *testing.T) {
	k := fixedBook()
	for n := range 10 {
		text := string(bytes.Repeat([]byte{0x90}, n))
		for _, bit := range []int{0, 1} {
			unzips(t, frame((&draft{}).begin(1, 1).text(k, text).end(k).fill(bit).bytes(), text), text)
		}
	}
}

func TestUnzipOfFewBytes(t *testing.T) {
	for _, b := range [][]byte{nil, {}, {0x78}, {0}, {0xff}} {
		for _, most := range []int{-1, 0, 9, math.MaxInt} {
			refuses(t, b, most, api.ErrEnd)
		}
	}
	refuses(t, []byte{0x78, 0x9c}, 9, api.ErrEnd)
	refuses(t, []byte{0, 0}, 9, api.ErrForm)
}

func TestUnzipOfAllFirstBytes(t *testing.T) {
	count := 0
	for v := range 1 << 16 {
		b := append([]byte{byte(v >> 8), byte(v)}, 0x4b, 0x04, 0x00, 0x00, 0x62, 0x00, 0x62)
		if v%31 != 0 || v/256%16 != 8 || v/4096 > 7 || v/32%2 != 0 {
			refuses(t, b, 1, api.ErrForm)
			// Ahead of all that is wrong behind.
			refuses(t, b[:2], 1, api.ErrForm)
			refuses(t, b[:7], 0, api.ErrForm)
			continue
		}
		count++
		unzips(t, b, "a")
	}
	// Eight first bytes, and of the second ones every 31st without the bit.
	if count < 30 || count > 40 {
		t.Errorf("%d frames", count)
	}
}

func TestUnzipTellsTheStreamsFaults(t *testing.T) {
	k := fixedBook()
	for _, x := range []struct {
		d    *draft
		most int
		e    api.Errno
	}{
		{(&draft{}).begin(1, 3), 9, api.ErrForm},
		{(&draft{}).begin(1, 1).text(k, "ab"), 9, api.ErrEnd},
		{(&draft{}).begin(1, 1).text(k, "ab").copy(k, 3, 3).end(k), 9, api.ErrData},
		{(&draft{}).begin(1, 1).text(k, "ab").copy(k, 3, 2).end(k), 4, api.ErrBig},
		{(&draft{}).begin(1, 1).text(k, "ab").end(k), -1, api.ErrBig},
		{(&draft{}).begin(1, 2).num(0, 5).num(0, 5).own(same(19, 0)), 9, api.ErrCode},
		{(&draft{}).begin(1, 2).num(30, 5).num(0, 5).num(0, 4), 9, api.ErrForm},
	} {
		b := append([]byte{0x78, 0x9c}, x.d.bytes()...)
		refuses(t, b, x.most, x.e)
		if x.e != api.ErrEnd {
			refuses(t, append(b, 1, 2, 3, 4, 5), x.most, x.e)
		}
	}
	for _, most := range []int{0, -1, math.MinInt} {
		if out, e := flate.Unzip(frame([]byte{3, 0}, ""), most); len(out) != 0 || e != api.OK {
			t.Errorf("%d: %x, %d", most, out, e)
		}
	}
}

func TestUnzipOfTheSum(t *testing.T) {
	good := frame([]byte{0x4b, 0x04, 0x00}, "a")
	for n := 2; n < len(good); n++ {
		refuses(t, good[:n], 1, api.ErrEnd)
	}
	for bit := range 32 {
		b := slices.Clone(good)
		b[5+bit/8] ^= 1 << (bit % 8)
		refuses(t, b, 1, api.ErrSum)
		refuses(t, append(b, 0), 1, api.ErrSum)
		refuses(t, b[:8], 1, api.ErrEnd)
		refuses(t, b, 0, api.ErrBig)
	}
	for _, rest := range []string{"\x00", "\xff", "x9c", string(good)} {
		refuses(t, append(slices.Clone(good), rest...), 1, api.ErrForm)
	}
	// The bytes in the other order are another sum.
	refuses(t, []byte{0x78, 0x9c, 0x4b, 0x04, 0x00, 0x62, 0x00, 0x62, 0x00}, 1, api.ErrSum)
}

// Sums of all sizes, the greatest ones too.
func TestZipAndUnzip(t *testing.T) {
	d := &draw{17}
	texts := [][]byte{nil, []byte("a"), bytes.Repeat([]byte{255}, 100000), make([]byte, 70000), d.text(70000, 256), d.again(70000, 9, 50, 900)}
	for n := range 70 {
		texts = append(texts, d.text(n, 256))
	}
	for _, text := range texts {
		for _, effort := range efforts {
			b := flate.Zip(text, effort)
			if !bytes.Equal(b, frame(flate.Deflate(text, effort), string(text))) {
				t.Fatalf("effort %d: %.40x", effort, b)
			}
			unzips(t, b, string(text))
			refuses(t, b[:len(b)-1], len(text), api.ErrEnd)
			r, err := zlib.NewReader(bytes.NewReader(b))
			if err != nil {
				t.Fatal(err)
			}
			if out, err := io.ReadAll(r); err != nil || !bytes.Equal(out, text) {
				t.Fatalf("effort %d: %d bytes elsewhere, %v", effort, len(out), err)
			}
		}
	}
}

func TestUnzipOfPackedElsewhere(t *testing.T) {
	d := &draw{18}
	for _, text := range [][]byte{nil, []byte("a"), d.text(3000, 256), d.again(70000, 9, 50, 900)} {
		for level := -2; level <= 9; level++ {
			var b bytes.Buffer
			w, err := zlib.NewWriterLevel(&b, level)
			if err != nil {
				t.Fatal(err)
			}
			w.Write(text)
			w.Close()
			unzips(t, b.Bytes(), string(text))
		}
	}
}

func TestZipSharesNothing(t *testing.T) {
	whole := []byte("abcabcabcrest")
	first := flate.Zip(whole[:9], 9)
	second := flate.Zip(whole[:9], 9)
	out, _ := flate.Unzip(first, 9)
	if string(whole) != "abcabcabcrest" || string(out) != "abcabcabc" || !bytes.Equal(first, second) {
		t.Errorf("%q, %q", whole, out)
	}
	clear(whole)
	clear(first[:cap(first)])
	again, _ := flate.Unzip(second, 9)
	if string(out) != "abcabcabc" || string(again) != "abcabcabc" {
		t.Errorf("%q, %q", out, again)
	}
	clear(out[:cap(out)])
	if string(again) != "abcabcabc" {
		t.Errorf("%q", again)
	}
}
