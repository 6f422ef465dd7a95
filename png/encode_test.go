package png_test

import (
	"bytes"
	"image"
	elsewhere "image/png"
	"math"
	"testing"

	"scumble/api"
	"scumble/png"
)

// writes tells where a picture's file isn't read as it by this program, by the plain way or
// by another program, or has greater parts; it answers how many parts it has.
func writes(t *testing.T, p picture, part int) int {
	t.Helper()
	b := encoded(t, p, part)
	reads(t, "what was written", string(b), p)
	img, err := elsewhere.Decode(bytes.NewReader(b))
	if err != nil {
		t.Fatalf("another program: %v", err)
	}
	other, is := img.(*image.NRGBA)
	if !is || other.Bounds() != image.Rect(0, 0, p.w, p.h) || string(other.Pix) != p.rgba {
		t.Errorf("another program reads a picture of %d, %d as another one", p.w, p.h)
	}
	all, ok := plainChunks(string(b[len(signature):]))
	same(t, "whether a file is chunks", ok, true)
	count := 0
	for _, c := range all {
		if c.kind == "IDAT" {
			count++
			if part >= 1 && len(c.data) > part {
				t.Errorf("an IDAT of %d bytes, with parts of %d", len(c.data), part)
			}
		}
	}
	if part < 1 && count != 1 {
		t.Errorf("%d IDATs, with parts of %d", count, part)
	}
	return count
}

func encoded(t *testing.T, p picture, part int) []byte {
	t.Helper()
	b, fault := png.Encode(p.w, p.h, []byte(p.rgba), part)
	same(t, "Encode", fault, api.OK)
	return b
}

func TestEncodeOfSmallPictures(t *testing.T) {
	d := &draw{3}
	for w := 1; w < 12; w++ {
		for h := 1; h < 12; h++ {
			for range 4 {
				p := d.picture(w, h)
				writes(t, p, 0)
				got, ok := plainDecode(string(encoded(t, p, 0)))
				same(t, "whether it is a file", ok, true)
				same(t, "the file by the plain way", got, p)
			}
		}
	}
}

// Colours behind an alpha of 0 stay as well.
func TestEncodeOfAnyBytes(t *testing.T) {
	for _, rgba := range []string{"\x00\x00\x00\x00", "\xff\xff\xff\xff", "\xff\x80\x01\x00", "\x00\x00\x00\xff", "\x00\x00\x00\x01"} {
		writes(t, picture{1, 1, rgba}, 0)
		writes(t, picture{2, 1, rgba + "abcd"}, 0)
		writes(t, picture{1, 2, "abcd" + rgba}, 0)
	}
}

// parts are numbers of bytes about the ends of what a part may be.
func parts(frame int) []int {
	return []int{
		math.MinInt, -5, -1, 0, 1, 2, 3, 4, 7, 11, 12, 13, frame/2 - 1, frame / 2, frame/2 + 1,
		frame - 1, frame, frame + 1, 8192, 1<<31 - 1, 1 << 31, 1 << 32, 1<<32 + 1, math.MaxInt,
	}
}

func TestEncodeInParts(t *testing.T) {
	d := &draw{4}
	for _, p := range []picture{{1, 1, "abcd"}, d.picture(9, 7), d.picture(3, 40), d.picture(60, 2), d.picture(64, 64)} {
		all, _ := plainChunks(string(encoded(t, p, 0)[len(signature):]))
		frame := len(all[1].data)
		for _, part := range parts(frame) {
			count := writes(t, p, part)
			if part >= 1 && count < (frame-1)/part+1 {
				t.Errorf("%d IDATs of at most %d bytes for %d", count, part, frame)
			}
		}
	}
}

func TestEncodeOfTheGreatestPictures(t *testing.T) {
	d := &draw{5}
	for i, sides := range [][2]int{{1, 1 << 15}, {1 << 15, 1}, {1 << 15, 1 << 7}, {1 << 7, 1 << 15}, {2047, 2049}} {
		writes(t, d.picture(sides[0], sides[1]), i%2<<16)
	}
}

// fails tells where Encode hasn't this error, or answers anything beside it.
func fails(t *testing.T, w int, h int, rgba []byte, should api.Errno) {
	t.Helper()
	for _, part := range []int{math.MinInt, 0, 1, 9, math.MaxInt} {
		if b, fault := png.Encode(w, h, rgba, part); len(b) != 0 || fault != should {
			t.Errorf("Encode of %d, %d, %d bytes, %d: %d bytes, %d, not %d", w, h, len(rgba), part, len(b), fault, should)
		}
	}
}

func TestEncodeOfSidesThatMayNotBe(t *testing.T) {
	sides := []int{math.MinInt, -1 << 32, -4, -1, 0, api.MaxSide + 1, api.MaxSide + 2, 1 << 16, 1 << 31, 1<<32 - 1, 1 << 32, 1<<32 + 1, 1 << 62, math.MaxInt}
	for _, a := range sides {
		for _, b := range append([]int{1, 2, 128, api.MaxSide}, sides...) {
			fails(t, a, b, nil, api.ErrLimit)
			fails(t, b, a, nil, api.ErrLimit)
			fails(t, a, b, make([]byte, 4), api.ErrLimit)
			fails(t, b, a, make([]byte, 16), api.ErrLimit)
		}
	}
}

// As many bytes as such a picture would have make no difference.
func TestEncodeOfTooGreatPictures(t *testing.T) {
	room := make([]byte, 4*(api.MaxArea+api.MaxSide))
	for _, sides := range [][2]int{
		{api.MaxSide + 1, 1}, {1, api.MaxSide + 1}, {api.MaxSide + 1, 127}, {api.MaxSide, 129}, {129, api.MaxSide},
		{2048, 2049}, {2049, 2048}, {2049, 2049}, {1985, 2113}, {2113, 1985},
	} {
		fails(t, sides[0], sides[1], room[:4*sides[0]*sides[1]], api.ErrLimit)
	}
	fails(t, api.MaxSide, api.MaxSide, room, api.ErrLimit)
}

func TestEncodeOfOtherNumbersOfBytes(t *testing.T) {
	for _, sides := range [][2]int{{1, 1}, {1, 2}, {2, 1}, {3, 5}, {api.MaxSide, 128}} {
		w, h := sides[0], sides[1]
		should := 4 * w * h
		for _, n := range []int{0, 1, 3, w * h, 3 * w * h, (4*w + 1) * h, should - 4*w, should - 4, should - 1, should + 1, should + 4, should + 4*w, 2 * should} {
			if n >= 0 && n != should {
				fails(t, w, h, make([]byte, n), api.ErrForm)
			}
		}
		fails(t, w, h, nil, api.ErrForm)
		fails(t, w, h, make([]byte, 0, should), api.ErrForm)
	}
}
