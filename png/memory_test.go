package png_test

import (
	"bytes"
	"testing"

	"scumble/png"
)

// apart writes each list with its spare room, and tells where two share memory.
func apart(t *testing.T, lists ...[]byte) {
	t.Helper()
	for i, b := range lists {
		b = b[:cap(b)]
		for at := range b {
			b[at] = byte(i)
		}
	}
	for i, b := range lists {
		b = b[:cap(b)]
		if bytes.Count(b, []byte{byte(i)}) != len(b) {
			t.Fatal("two lists share memory")
		}
	}
}

const spare = "spare room"

// roomy is a text with spare room behind it.
func roomy(text string) []byte { return []byte(text + spare)[:len(text)] }

// stays tells where a list of roomy's or its spare room was changed.
func stays(t *testing.T, what string, b []byte, text string) {
	t.Helper()
	if string(b[:len(text)+len(spare)]) != text+spare {
		t.Errorf("%s was changed: %s", what, quoted(string(b)))
	}
}

func TestFilteredLinesAreApart(t *testing.T) {
	for _, text := range [][2]string{{"", ""}, {"abc", "\x00\x00\x00"}, {"some more bytes", "a line above it"}} {
		for kind := -1; kind < 6; kind++ {
			line, above := roomy(text[0]), roomy(text[1])
			first := png.Filter(kind, line, above)
			second := png.Filter(kind, line, above)
			third := png.Unfilter(kind, line, above)
			fourth := png.Unfilter(kind, line, above)
			stays(t, "the line", line, text[0])
			stays(t, "the one above", above, text[1])
			apart(t, line, above, first, second, third, fourth)
		}
	}
}

// A line may be the one above itself.
func TestOneLineTwice(t *testing.T) {
	text := "abcdefgh!?"
	for kind := range 5 {
		line := roomy(text)
		first, second := png.Filter(kind, line, line), png.Unfilter(kind, line, line)
		stays(t, "the line", line, text)
		same(t, "Filter", string(first), plainFilter(kind, text, text))
		same(t, "Unfilter", string(second), plainUnfilter(kind, text, text))
	}
}

func TestFilesAreApart(t *testing.T) {
	d := &draw{6}
	for _, p := range []picture{{1, 1, "abcd"}, d.picture(9, 5), d.picture(2, 30)} {
		for _, part := range []int{0, 1, 20} {
			rgba := roomy(p.rgba)
			first, _ := png.Encode(p.w, p.h, rgba, part)
			second, _ := png.Encode(p.w, p.h, rgba, part)
			stays(t, "the picture", rgba, p.rgba)
			same(t, "both files are alike", string(first), string(second))
			apart(t, rgba, first)
			reads(t, "a file, when all else is written", string(second), p)
			apart(t, rgba, first, second)
		}
	}
}

func TestReadPicturesAreApart(t *testing.T) {
	d := &draw{7}
	for _, p := range []picture{{1, 1, "abcd"}, d.picture(9, 5), d.picture(2, 30)} {
		for _, kind := range []int{0, 1, 2, 3, 4} {
			text := framed(p.w, p.h, frameOf(plainLines(p, kind), kind))
			b := roomy(text)
			_, _, first, _ := png.Decode(b)
			_, _, second, _ := png.Decode(b)
			stays(t, "the file", b, text)
			apart(t, b, first)
			same(t, "a picture, when all else is written", string(second), p.rgba)
			apart(t, b, first, second)
		}
	}
}

func TestRefusedThingsStay(t *testing.T) {
	rgba := roomy("abcd")
	png.Encode(2, 1, rgba, 1)
	png.Encode(0, 1, rgba, 1)
	stays(t, "the picture", rgba, "abcd")
	good := file(1, 1, "\x00abcd")
	for _, text := range []string{"", good[:len(good)-1], good + "x", file(1, 2, "\x00abcd"), file(1, 1, "\x05abcd")} {
		b := roomy(text)
		png.Decode(b)
		stays(t, "no file", b, text)
	}
}

// Bytes in the spare room aren't read.
func TestSpareRoomIsNotRead(t *testing.T) {
	all := []byte(file(1, 1, "\x00abcd"))
	for n := range len(all) {
		if _, _, _, fault := png.Decode(all[:n]); fault == 0 {
			t.Errorf("%d bytes of %d are read as a file", n, len(all))
		}
	}
}
