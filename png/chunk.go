package png

import (
	"iter"

	"scumble/sums"
)

// numberSize is how many bytes a number has, typeSize how many a chunk's type; around is what
// a chunk has beside its data: their length, its type and its sum.
const (
	numberSize = 4
	typeSize   = 4
	around     = numberSize + typeSize + numberSize
)

// chunk is a part of a file.
type chunk struct {
	kind string
	data []byte
}

// passed tells whether nothing of a chunk counts.
func (c chunk) passed() bool { return c.kind != "" && c.kind[0] >= 'a' }

// putChunk adds a chunk to a file.
func putChunk(b []byte, kind string, data []byte) []byte {
	b = putNumber(b, len(data))
	b = append(b, kind...)
	b = append(b, data...)
	return putNumber(b, sums.Crc([]byte(kind), data))
}

// chunks cuts b into its chunks. What is no chunk is told as one without a type, the last.
func chunks(b []byte) iter.Seq[chunk] {
	return func(yield func(chunk) bool) {
		for rest := b; len(rest) > 0; {
			c, stands := first(rest)
			if !yield(c) || !stands {
				return
			}
			rest = rest[around+len(c.data):]
		}
	}
}

// first is the chunk, its data in b itself, that b begins with, if one stands there.
func first(b []byte) (chunk, bool) {
	if len(b) < around {
		return chunk{}, false
	}
	// The length may be any that four bytes hold, so it is held against the room. Of those
	// that no chunk may have none has the room.
	n := number(b)
	if n > len(b)-around {
		return chunk{}, false
	}
	sealed := b[numberSize : numberSize+typeSize+n]
	if !letters(sealed[:typeSize]) || sums.Crc(sealed) != number(b[numberSize+len(sealed):]) {
		return chunk{}, false
	}
	return chunk{string(sealed[:typeSize]), sealed[typeSize:]}, true
}

// letters tells whether b is nothing but letters.
func letters(b []byte) bool {
	for _, x := range b {
		if (x < 'A' || x > 'Z') && (x < 'a' || x > 'z') {
			return false
		}
	}
	return true
}

func putNumber(b []byte, n int) []byte {
	return append(b, byte(n>>24), byte(n>>16), byte(n>>8), byte(n))
}

// number is the one that b begins with.
func number(b []byte) int {
	n := 0
	for _, x := range b[:numberSize] {
		n = n<<8 | int(x)
	}
	return n
}

// pieces cuts b into pieces of n bytes; the last one has those that are left.
func pieces(b []byte, n int) iter.Seq[[]byte] {
	return func(yield func([]byte) bool) {
		for rest := b; len(rest) > 0; {
			size := min(n, len(rest))
			if !yield(rest[:size]) {
				return
			}
			rest = rest[size:]
		}
	}
}
