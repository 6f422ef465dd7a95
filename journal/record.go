package journal

import (
	"scumble/api"
	"scumble/sums"
)

// numberSize is how many bytes a record's length has, and its sum; around is what the record
// has beside its payload.
const (
	numberSize = 4
	around     = 2 * numberSize
)

// Record is a payload with its length and sum.
func Record(payload []byte) ([]byte, api.Errno) {
	if len(payload) > api.MaxRecord {
		return nil, api.ErrLimit
	}
	b := make([]byte, 0, around+len(payload))
	b = putNumber(b, len(payload))
	b = append(b, payload...)
	return putNumber(b, sums.Crc(b)), api.OK
}

// Scan finds the records of bytes: their payloads, and where the last one ends.
func Scan(b []byte) (payloads [][]byte, end int) {
next:
	if payload, stands := first(b[end:]); stands {
		payloads = append(payloads, append([]byte(nil), payload...))
		end += around + len(payload)
		goto next
	}
	return payloads, end
}

// first is the payload, in b itself, of the record that b begins with, if one stands there.
func first(b []byte) ([]byte, bool) {
	if len(b) < around {
		return nil, false
	}
	// The length may be any that four bytes hold, so it is held against the room.
	n := number(b)
	if n > api.MaxRecord || n > len(b)-around {
		return nil, false
	}
	end := numberSize + n
	return b[numberSize:end], number(b[end:]) == sums.Crc(b[:end])
}

func putNumber(b []byte, n int) []byte {
	return append(b, byte(n>>24), byte(n>>16), byte(n>>8), byte(n))
}

// number is the one that b begins with.
func number(b []byte) int {
	n := 0
	for _, x := range b[:numberSize] {
		n = n<<8 | int(x)
	}
	return n
}
