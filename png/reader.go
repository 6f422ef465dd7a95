package png

import (
	"scumble/api"
	"scumble/flate"
)

// Where in a file reading stands.
const (
	atStart = iota
	aheadOfData
	amidData
	behindData
	atEnd
)

// reader is what has been read of a file.
type reader struct {
	place int
	w, h  int
	frame []byte
}

// file reads a file up to its end, and tells whether all of it may stand there; its frame
// isn't opened yet.
func (r *reader) file(b []byte) bool {
	if len(b) < len(signature) || string(b[:len(signature)]) != signature {
		return false
	}
	for c := range chunks(b[len(signature):]) {
		if !r.take(c) {
			return false
		}
	}
	return r.place == atEnd
}

// take reads the next chunk, and tells whether it may stand there.
func (r *reader) take(c chunk) bool {
	from := r.place
	switch {
	case c.kind == headType:
		r.place = aheadOfData
		return from == atStart && r.head(c.data)
	case c.kind == dataType:
		r.place = amidData
		r.frame = append(r.frame, c.data...)
		return from == aheadOfData || from == amidData
	case c.kind == endType:
		r.place = atEnd
		return (from == amidData || from == behindData) && len(c.data) == 0
	case c.passed():
		if from == amidData {
			r.place = behindData
		}
		return from != atStart && from != atEnd
	}
	return false
}

// head reads the data of a file's first chunk.
func (r *reader) head(data []byte) bool {
	if len(data) != 2*numberSize+len(format) {
		return false
	}
	r.w, r.h = number(data), number(data[numberSize:])
	return string(data[2*numberSize:]) == format && sized(r.w, r.h)
}

// pixels opens the frame, and tells whether its lines are a picture's.
func (r *reader) pixels() ([]byte, bool) {
	width := pixelSize * r.w
	size := r.h * (1 + width)
	lines, fault := flate.Unzip(r.frame, size)
	if fault != api.OK || len(lines) != size {
		return nil, false
	}
	rgba := make([]byte, 0, r.h*width)
	above := make([]byte, width)
	for line := range pieces(lines, 1+width) {
		kind := int(line[0])
		if !known(kind) {
			return nil, false
		}
		above = Unfilter(kind, line[1:], above)
		rgba = append(rgba, above...)
	}
	return rgba, true
}
