package png_test

import (
	"bytes"
	"compress/zlib"
	"encoding/binary"
	"hash/crc32"
	"io"
	"regexp"
	"strconv"
	"strings"
	"testing"

	"scumble/api"
	"scumble/png"
)

func same[T comparable](t *testing.T, what string, got T, should T) {
	t.Helper()
	if got != should {
		t.Errorf("%s: %v, not %v", what, got, should)
	}
}

// quoted is a text that can be printed; a long one is told by its length, its ends and its
// sum.
func quoted(text string) string {
	if n := len(text); n > 200 {
		sum := strconv.Itoa(int(crc32.ChecksumIEEE([]byte(text))))
		text = text[:20] + ".." + strconv.Itoa(n) + ".." + text[n-20:] + ".." + sum
	}
	return strconv.Quote(text)
}

const signature = "\x89\x50\x4e\x47\x0d\x0a\x1a\x0a"

// number is one in four bytes.
func number(n uint32) string { return string(binary.BigEndian.AppendUint32(nil, n)) }

// sum is the Crc of a text in four bytes, by another program.
func sum(text string) string { return number(crc32.ChecksumIEEE([]byte(text))) }

func chunk(kind string, data string) string {
	return number(uint32(len(data))) + kind + data + sum(kind+data)
}

func head(w int, h int) string {
	return chunk("IHDR", number(uint32(w))+number(uint32(h))+"\x08\x06\x00\x00\x00")
}

// frame is one of lines, by another program.
func frame(lines string) string { return frameOf(lines, zlib.DefaultCompression) }

func frameOf(lines string, level int) string {
	var b bytes.Buffer
	w, _ := zlib.NewWriterLevel(&b, level)
	w.Write([]byte(lines))
	w.Close()
	return b.String()
}

// framed is a file with one IDAT.
func framed(w int, h int, frame string) string {
	return signature + head(w, h) + chunk("IDAT", frame) + chunk("IEND", "")
}

// file is one of lines.
func file(w int, h int, lines string) string { return framed(w, h, frame(lines)) }

// picture is one with its bytes as a text.
type picture struct {
	w, h int
	rgba string
}

// plainTake is what a filter takes from a byte.
func plainTake(kind int, a int, b int, c int) int {
	switch kind {
	case 1:
		return a
	case 2:
		return b
	case 3:
		return (a + b - (a+b)%2) / 2
	case 4:
		best := a
		for _, x := range []int{b, c} {
			if far(a+b-c, x) < far(a+b-c, best) {
				best = x
			}
		}
		return best
	}
	return 0
}

func far(a int, b int) int {
	if a < b {
		return b - a
	}
	return a - b
}

// ahead is the byte so many places ahead of one in a line, 0 if there is none.
func ahead(line string, i int) int {
	if i < 4 {
		return 0
	}
	return int(line[i-4])
}

// plainFilter is a line with a filter.
func plainFilter(kind int, line string, above string) string {
	b := ""
	for i := range len(line) {
		b += string([]byte{byte(256 + int(line[i]) - plainTake(kind, ahead(line, i), int(above[i]), ahead(above, i)))})
	}
	return b
}

// plainUnfilter tries for each byte which one the filter makes that one of.
func plainUnfilter(kind int, line string, above string) string {
	b := ""
	for i := range len(line) {
		for x := range 256 {
			if (x-plainTake(kind, ahead(b, i), int(above[i]), ahead(above, i))+256)%256 == int(line[i]) {
				b += string([]byte{byte(x)})
				break
			}
		}
	}
	return b
}

// plainLines are a picture's lines with these filters, one behind the other and over again.
func plainLines(p picture, kinds ...int) string {
	var lines strings.Builder
	above := strings.Repeat("\x00", 4*p.w)
	for y := range p.h {
		line := p.rgba[4*p.w*y : 4*p.w*(y+1)]
		kind := kinds[y%len(kinds)]
		lines.WriteByte(byte(kind))
		lines.WriteString(plainFilter(kind, line, above))
		above = line
	}
	return lines.String()
}

var (
	fourLetters = regexp.MustCompile(`^[A-Za-z]{4}$`)
	rightOrder  = regexp.MustCompile(`^Hs*D+s*E$`)
)

// plainChunk is a chunk as it stands in a file.
type plainChunk struct{ kind, data string }

// plainChunks are all chunks that a text is.
func plainChunks(text string) (all []plainChunk, ok bool) {
	for text != "" {
		if len(text) < 12 {
			return nil, false
		}
		n := int(binary.BigEndian.Uint32([]byte(text[:4])))
		if n > len(text)-12 || !strings.HasPrefix(text, chunk(text[4:8], text[8:8+n])) || !fourLetters.MatchString(text[4:8]) {
			return nil, false
		}
		all = append(all, plainChunk{text[4:8], text[8 : 8+n]})
		text = text[12+n:]
	}
	return all, true
}

// letter tells what a chunk is in the order of a file.
func (c plainChunk) letter() string {
	switch {
	case c.kind == "IHDR":
		return "H"
	case c.kind == "IDAT":
		return "D"
	case c.kind == "IEND" && c.data == "":
		return "E"
	case strings.ToLower(c.kind[:1]) == c.kind[:1]:
		return "s"
	}
	return "X"
}

// plainUnzip is what a frame holds, by another program.
func plainUnzip(frame string) (lines string, ok bool) {
	in := strings.NewReader(frame)
	r, err := zlib.NewReader(in)
	if err != nil {
		return "", false
	}
	b, err := io.ReadAll(r)
	return string(b), err == nil && in.Len() == 0
}

// plainDecode reads a file by the chapter's words.
func plainDecode(text string) (p picture, ok bool) {
	rest, ok := strings.CutPrefix(text, signature)
	all, sound := plainChunks(rest)
	order, data := "", ""
	for _, c := range all {
		order += c.letter()
		if c.kind == "IDAT" {
			data += c.data
		}
	}
	if !ok || !sound || !rightOrder.MatchString(order) || len(all[0].data) != 13 || all[0].data[8:] != "\x08\x06\x00\x00\x00" {
		return picture{}, false
	}
	sides := []byte(all[0].data)
	w, h := int(binary.BigEndian.Uint32(sides)), int(binary.BigEndian.Uint32(sides[4:]))
	lines, ok := plainUnzip(data)
	if !ok || w < 1 || h < 1 || w > 1<<15 || h > 1<<15 || w*h > 1<<22 || len(lines) != h*(1+4*w) {
		return picture{}, false
	}
	p = picture{w: w, h: h}
	above := strings.Repeat("\x00", 4*w)
	for y := range h {
		line := lines[y*(1+4*w):]
		if line[0] > 4 {
			return picture{}, false
		}
		above = plainUnfilter(int(line[0]), line[1:1+4*w], above)
		p.rgba += above
	}
	return p, true
}

// reads tells where a file isn't read as a picture.
func reads(t *testing.T, what string, text string, should picture) {
	t.Helper()
	w, h, rgba, fault := png.Decode([]byte(text))
	same(t, what, fault, api.OK)
	same(t, what+": the width", w, should.w)
	same(t, what+": the height", h, should.h)
	if string(rgba) != should.rgba {
		t.Errorf("%s: %s, not %s", what, quoted(string(rgba)), quoted(should.rgba))
	}
}

// refuses tells where a text is read as a file.
func refuses(t *testing.T, what string, text string) {
	t.Helper()
	w, h, rgba, fault := png.Decode([]byte(text))
	if w != 0 || h != 0 || len(rgba) != 0 || fault != api.ErrPNG {
		t.Errorf("%s: %d, %d, %d bytes, %d for %s", what, w, h, len(rgba), fault, quoted(text))
	}
}

// agrees tells where a text isn't read as the chapter's words do; whether it is a file.
func agrees(t *testing.T, what string, text string) bool {
	t.Helper()
	should, ok := plainDecode(text)
	if ok {
		reads(t, what, text, should)
	} else {
		refuses(t, what, text)
	}
	return ok
}

// draw is a row of numbers that looks without a rule, alike at each run.
type draw struct{ state uint64 }

func (d *draw) next(n int) int {
	d.state = d.state*6364136223846793005 + 1442695040888963407
	return int(d.state>>20) % n
}

// text is one of so many bytes: of any, of few, or of such as rise slowly.
func (d *draw) text(n int) string {
	b := make([]byte, n)
	way := d.next(4)
	for i := range b {
		switch way {
		case 0:
			b[i] = byte(d.next(256))
		case 1:
			b[i] = byte(85 * d.next(4))
		case 2:
			b[i] = byte(i + d.next(3))
		case 3:
			b[i] = byte(i / 100)
		}
	}
	return string(b)
}

// picture is one with these sides.
func (d *draw) picture(w int, h int) picture { return picture{w, h, d.text(4 * w * h)} }
