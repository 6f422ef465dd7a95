package png_test

import (
	"bytes"
	"compress/zlib"
	"encoding/hex"
	"image"
	"image/color/palette"
	elsewhere "image/png"
	"strings"
	"testing"

	"scumble/api"
	"scumble/png"
)

func TestDecodeOfAFileByHand(t *testing.T) {
	// A red pixel, half seen: a stream of one block of the kind 0.
	b, err := hex.DecodeString("89504e470d0a1a0a" +
		"0000000d" + "49484452" + "00000001" + "00000001" + "0806000000" + "1f15c489" +
		"00000010" + "49444154" + "789c" + "010500faff" + "00ff000080" + "04810180" + "efc49848" +
		"00000000" + "49454e44" + "ae426082")
	if err != nil {
		t.Fatal(err)
	}
	reads(t, "a file by hand", string(b), picture{1, 1, "\xff\x00\x00\x80"})
	same(t, "the file", hex.EncodeToString(b), hex.EncodeToString([]byte(framed(1, 1, string(b[41:57])))))
}

func TestDecodeOfEachFilter(t *testing.T) {
	d := &draw{8}
	for w := 1; w < 9; w++ {
		for h := 1; h < 9; h++ {
			p := d.picture(w, h)
			for kind := range 5 {
				reads(t, "one filter", file(w, h, plainLines(p, kind)), p)
			}
			reads(t, "all filters", file(w, h, plainLines(p, d.next(5), d.next(5), d.next(5), d.next(5), d.next(5))), p)
			agrees(t, "any lines", file(w, h, plainLines(picture{w, h, d.text(4 * w * h)}, 0)))
		}
	}
}

// Above the first line, and ahead of a line's first pixel, all is 0.
func TestDecodeAtTheEdges(t *testing.T) {
	for kind := range 5 {
		lines := string([]byte{byte(kind)}) + "abcd"
		reads(t, "one pixel", file(1, 1, lines), picture{1, 1, "abcd"})
	}
	reads(t, "the line above", file(1, 2, "\x02abcd\x02\x01\x01\x01\x01"), picture{1, 2, "abcdbcde"})
	reads(t, "half the line above", file(1, 2, "\x03abcd\x03\x00\x00\x00\x00"), picture{1, 2, "abcd0112"})
	reads(t, "the pixel ahead", file(2, 1, "\x01abcd\xff\xff\xff\xff"), picture{2, 1, "abcd`abc"})
	reads(t, "half the pixel ahead", file(2, 1, "\x03abcd\x00\x00\x00\x00"), picture{2, 1, "abcd0112"})
	reads(t, "not the last pixel of the line above", file(1, 2, "\x00abcd\x01\x01\x02\x03\x04"), picture{1, 2, "abcd\x01\x02\x03\x04"})
}

func TestDecodeOfFilesWrittenElsewhere(t *testing.T) {
	d := &draw{9}
	for _, level := range []elsewhere.CompressionLevel{elsewhere.DefaultCompression, elsewhere.NoCompression, elsewhere.BestSpeed, elsewhere.BestCompression} {
		for _, sides := range [][2]int{{1, 1}, {7, 5}, {100, 3}, {3, 100}, {200, 150}} {
			p := d.picture(sides[0], sides[1])
			p.rgba = p.rgba[:3] + "\x7f" + p.rgba[4:]
			var b bytes.Buffer
			w := elsewhere.Encoder{CompressionLevel: level}
			if err := w.Encode(&b, &image.NRGBA{Pix: []byte(p.rgba), Stride: 4 * p.w, Rect: image.Rect(0, 0, p.w, p.h)}); err != nil {
				t.Fatal(err)
			}
			reads(t, "a file written elsewhere", b.String(), p)
		}
	}
}

// A file that another program writes with other colours isn't just such a file.
func TestDecodeOfOtherPicturesWrittenElsewhere(t *testing.T) {
	rect := image.Rect(0, 0, 5, 4)
	for _, m := range []image.Image{image.NewGray(rect), image.NewGray16(rect), image.NewNRGBA64(rect), image.NewPaletted(rect, palette.WebSafe), opaque(rect)} {
		var b bytes.Buffer
		if err := elsewhere.Encode(&b, m); err != nil {
			t.Fatal(err)
		}
		refuses(t, "another picture", b.String())
	}
}

// opaque is a picture that is written without alpha elsewhere.
func opaque(rect image.Rectangle) image.Image {
	m := image.NewNRGBA(rect)
	for i := range m.Pix {
		m.Pix[i] = 255
	}
	return m
}

func TestDecodeOfEachKindOfFrame(t *testing.T) {
	d := &draw{10}
	p := d.picture(40, 30)
	lines := plainLines(p, 0, 1, 2, 3, 4)
	for level := zlib.HuffmanOnly; level <= zlib.BestCompression; level++ {
		reads(t, "a frame", framed(40, 30, frameOf(lines, level)), p)
	}
	// What a frame begins with may be anything that layer 6 takes.
	rest := frame(lines)[2:]
	for v := range 1 << 16 {
		text := string([]byte{byte(v >> 8), byte(v)}) + rest
		if v%31 == 0 && v>>8&15 == 8 && v>>12 <= 7 && v&0x20 == 0 {
			reads(t, "a frame's beginning", framed(40, 30, text), p)
		} else if v%7 == 0 || v%31 == 0 {
			refuses(t, "a frame's beginning", framed(40, 30, text))
		}
	}
}

func TestDecodeOfFramesThatAreNone(t *testing.T) {
	good := frame("\x00abcd")
	for n := range len(good) {
		refuses(t, "a frame cut", framed(1, 1, good[:n]))
		refuses(t, "a frame's end", framed(1, 1, good[n+1:]))
		for bit := range 8 {
			b := []byte(good)
			b[n] ^= 1 << bit
			agrees(t, "a spoiled bit of a frame", framed(1, 1, string(b)))
		}
	}
	for _, behind := range []string{"\x00", "\xff", "behind", good} {
		refuses(t, "a frame with anything behind", framed(1, 1, good+behind))
		refuses(t, "a frame with anything ahead", framed(1, 1, behind+good))
	}
	refuses(t, "lines without a frame", framed(1, 1, "\x00abcd"))
}

func TestDecodeOfMoreOrFewerBytes(t *testing.T) {
	d := &draw{11}
	for w := 1; w < 5; w++ {
		for h := 1; h < 5; h++ {
			size := h * (1 + 4*w)
			for n := range size + 4*w + 6 {
				text := file(w, h, strings.Repeat("\x00", n))
				same(t, "whether it is a file", agrees(t, "so many bytes", text), n == size)
			}
			lines := plainLines(d.picture(w, h), 0)
			refuses(t, "a line more", file(w, h, lines+lines[:1+4*w]))
			refuses(t, "a line fewer", file(w, h, lines[1+4*w:]))
			refuses(t, "all twice", file(w, h, lines+lines))
			refuses(t, "no lines", file(w, h, ""))
		}
	}
	refuses(t, "far more lines", file(1, 1, strings.Repeat("\x00", 1<<24)))
}

// Lines of as many bytes in all are another picture's, if their filters are.
func TestDecodeByTheSides(t *testing.T) {
	lines := ""
	for i := range 45 {
		lines += string([]byte{byte(100 + i)})
	}
	lines = "\x00" + lines[1:]
	reads(t, "one line", file(11, 1, lines), picture{11, 1, lines[1:]})
	refuses(t, "filters that aren't", file(2, 5, lines))
	for i := 0; i < 45; i += 9 {
		lines = lines[:i] + "\x00" + lines[i+1:]
	}
	agrees(t, "five lines", file(2, 5, lines))
	reads(t, "one line still", file(11, 1, lines), picture{11, 1, lines[1:]})
	refuses(t, "nine lines", file(1, 9, lines))
}

func TestDecodeOfEachFirstByteOfALine(t *testing.T) {
	d := &draw{12}
	p := d.picture(3, 4)
	for y := range 4 {
		for kind := range 256 {
			b := []byte(plainLines(p, 0, 1, 2, 3))
			b[13*y] = byte(kind)
			same(t, "whether it is a file", agrees(t, "a filter", file(3, 4, string(b))), kind <= 4)
		}
	}
}

// sized is a file of as many lines as its sides say, all 0.
func sized(w int, h int) string { return file(w, h, strings.Repeat("\x00", (4*w+1)*h)) }

func TestDecodeOfSidesThatMayNotBe(t *testing.T) {
	for _, sides := range [][2]int{
		{0, 0}, {0, 1}, {1, 0}, {0, 5}, {5, 0}, {0, api.MaxSide}, {api.MaxSide + 1, 1}, {1, api.MaxSide + 1}, {api.MaxSide + 1, 127},
		{127, api.MaxSide + 1}, {api.MaxSide, 129}, {129, api.MaxSide}, {2048, 2049}, {2049, 2048}, {1985, 2113}, {2113, 1985}, {1 << 16, 1}, {1, 1 << 16}, {api.MaxArea, 1},
	} {
		refuses(t, "sides", sized(sides[0], sides[1]))
	}
	for _, side := range []int{1 << 16, 1 << 24, 1<<31 - 1, 1 << 31, 1<<31 + 1, 1<<32 - 4, 1<<32 - 1} {
		for _, other := range []int{0, 1, 4, 1 << 16, 1 << 30, 1 << 31, 1<<32 - 1, side} {
			for _, lines := range []string{"", "\x00", "\x00abcd", "\x00abcdefgh", "\x00abc"} {
				refuses(t, "a great width", file(side, other, lines))
				refuses(t, "a great height", file(other, side, lines))
			}
		}
	}
}

func TestDecodeOfTheGreatestSides(t *testing.T) {
	for _, sides := range [][2]int{{1, api.MaxSide}, {api.MaxSide, 1}, {api.MaxSide, 128}, {128, api.MaxSide}, {2048, 2048}, {2047, 2049}} {
		w, h := sides[0], sides[1]
		gotW, gotH, rgba, fault := png.Decode([]byte(sized(w, h)))
		same(t, "Decode", fault, api.OK)
		same(t, "the width", gotW, w)
		same(t, "the height", gotH, h)
		same(t, "how many noughts", bytes.Count(rgba, []byte{0}), 4*w*h)
	}
}
