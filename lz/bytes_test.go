package lz_test

import (
	"bytes"
	"math"
	"slices"
	"testing"

	"scumble/api"
	"scumble/lz"
)

// bring tells where tokens don't bring these bytes, or don't at the most that
// just holds them, or do at less.
func bring(t *testing.T, tokens []lz.Token, should []byte) {
	t.Helper()
	for _, most := range []int{len(should), len(should) + 1, math.MaxInt} {
		b, e := lz.Bytes(tokens, most)
		if e != api.OK || !bytes.Equal(b, should) {
			t.Errorf("%v, %d: %q, %d; not %q", tokens, most, b, e, should)
		}
	}
	if len(tokens) > 0 {
		refused(t, tokens, len(should)-1, api.ErrBig)
	}
}

func refused(t *testing.T, tokens []lz.Token, most int, should api.Errno) {
	t.Helper()
	if b, e := lz.Bytes(tokens, most); e != should || len(b) != 0 {
		t.Errorf("%d tokens, %d: %d bytes, %d; not %d", len(tokens), most, len(b), e, should)
	}
}

// wrongLengths and wrongDistances are those that no copy has.
var (
	wrongLengths   = []int{math.MinInt, -259, -258, -3, -2, -1, 1, 2, 259, 260, 512, 1 << 32, 1<<32 + 3, math.MaxInt}
	wrongDistances = []int{math.MinInt, -32768, -2, -1, 0, 32769, 32770, 1 << 16, 1<<16 + 1, 1 << 32, 1<<32 + 1, math.MaxInt}
)

func TestBytesOfTheExamples(t *testing.T) {
	bring(t, []lz.Token{one('a'), one('b'), from(4, 2)}, []byte("ababab"))
	refused(t, []lz.Token{from(4, 2)}, 100, api.ErrData)
	refused(t, []lz.Token{from(3, 1)}, 100, api.ErrData)
}

func TestBytesOfNothing(t *testing.T) {
	for _, tokens := range [][]lz.Token{nil, {}} {
		bring(t, tokens, nil)
		for _, most := range []int{0, -1, math.MinInt} {
			if b, e := lz.Bytes(tokens, most); e != api.OK || len(b) != 0 {
				t.Errorf("%d: %v, %d", most, b, e)
			}
		}
	}
}

func TestBytesOfLiterals(t *testing.T) {
	b := make([]byte, 256)
	for i := range b {
		b[i] = byte(i)
	}
	for n := 1; n <= len(b); n++ {
		bring(t, ones(b[:n]), b[:n])
	}
}

// Copies of each length, from near and far, of what they bring themselves too.
func TestBytesOfCopies(t *testing.T) {
	b := (&draw{1}).text(300, 256)
	for length := 3; length <= 258; length++ {
		for _, distance := range []int{1, 2, 3, 4, 7, length - 1, length, length + 1, 299, 300} {
			tokens := append(ones(b), from(length, distance), one('!'))
			should := slices.Clone(b)
			for range length {
				should = append(should, should[len(should)-distance])
			}
			bring(t, tokens, append(should, '!'))
		}
	}
}

func TestBytesOfCopiesOfCopies(t *testing.T) {
	tokens := []lz.Token{one('x'), from(3, 1), one('y'), from(5, 2), from(4, 9), one('z'), from(3, 15)}
	bring(t, tokens, []byte("xxxx"+"y"+"xyxyx"+"xxxy"+"z"+"xxx"))
}

func TestBytesFromFarthest(t *testing.T) {
	b := (&draw{2}).text(40000, 256)
	for _, ahead := range []int{32768, 32769, 40000} {
		for _, distance := range []int{32767, 32768} {
			start := ahead - distance
			bring(t, append(ones(b[:ahead]), from(258, distance)), slices.Concat(b[:ahead], b[start:start+258]))
		}
		refused(t, append(ones(b[:ahead]), from(258, 32769)), math.MaxInt, api.ErrData)
	}
	refused(t, append(ones(b[:32767]), from(3, 32768)), math.MaxInt, api.ErrData)
}

func TestBytesOfWrongCopies(t *testing.T) {
	b := ones((&draw{3}).text(40000, 256))
	for _, length := range wrongLengths {
		for _, distance := range append(wrongDistances, 1, 3, 32768) {
			refused(t, append(b, from(length, distance)), math.MaxInt, api.ErrData)
		}
	}
	for _, distance := range wrongDistances {
		for _, length := range []int{3, 4, 257, 258} {
			refused(t, append(b, from(length, distance)), math.MaxInt, api.ErrData)
		}
	}
}

// No copy begins ahead of the first byte.
func TestBytesAheadOfTheFirst(t *testing.T) {
	b := (&draw{4}).text(300, 256)
	for ahead := range b {
		for distance := 1; distance <= ahead; distance++ {
			if _, e := lz.Bytes(append(ones(b[:ahead]), from(3, distance)), math.MaxInt); e != api.OK {
				t.Errorf("%d ahead of %d: %d", distance, ahead, e)
			}
		}
		for _, more := range []int{1, 2, 10, 1000} {
			refused(t, append(ones(b[:ahead]), from(3, ahead+more)), math.MaxInt, api.ErrData)
		}
	}
}

func TestBytesUpToMost(t *testing.T) {
	tokens := []lz.Token{one('a'), one('b'), from(3, 2), one('c'), from(258, 3), one('d')}
	ends := []int{1, 2, 5, 6, 264, 265}
	for most := -2; most <= 270; most++ {
		for i, end := range ends {
			if end > most {
				refused(t, tokens[:i+1], most, api.ErrBig)
			} else if b, e := lz.Bytes(tokens[:i+1], most); e != api.OK || len(b) != end {
				t.Errorf("%d tokens, %d: %d bytes, %d", i+1, most, len(b), e)
			}
		}
	}
	refused(t, tokens, math.MinInt, api.ErrBig)
}

// Of a token's errors ErrData is first; of tokens the first wrong one's.
func TestBytesErrorsInTheirOrder(t *testing.T) {
	for _, wrong := range []lz.Token{from(2, 1), from(259, 1), from(-1, 1), from(3, 0), from(3, 3), from(3, 32769)} {
		for _, most := range []int{2, 4, 100} {
			refused(t, []lz.Token{one('a'), one('b'), wrong}, most, api.ErrData)
		}
		for _, most := range []int{1, 0, -1} {
			refused(t, []lz.Token{one('a'), one('b'), wrong}, most, api.ErrBig)
		}
		refused(t, []lz.Token{one('a'), one('b'), wrong, one('c'), from(3, 1)}, 2, api.ErrData)
		refused(t, []lz.Token{one('a'), one('b'), from(3, 1), wrong}, 4, api.ErrBig)
		refused(t, []lz.Token{wrong}, -1, api.ErrData)
	}
}

func TestBytesDontLookAtTheRest(t *testing.T) {
	var tokens []lz.Token
	for _, distance := range append(wrongDistances, 1, 32768) {
		tokens = append(tokens, lz.Token{Distance: distance, Literal: 'a'})
	}
	bring(t, tokens, bytes.Repeat([]byte{'a'}, len(tokens)))
	for _, x := range []byte{0, 1, 'a', 'b', 255} {
		bring(t, []lz.Token{one('a'), {Length: 3, Distance: 1, Literal: x}}, []byte("aaaa"))
	}
}

// All rows of up to five of these tokens, against the plain way.
func TestBytesOfAllShortRows(t *testing.T) {
	kinds := []lz.Token{one('a'), one('b'), from(3, 1), from(4, 2), from(5, 4), from(2, 1), from(3, 0)}
	rows := [][]lz.Token{nil}
	for len(rows[0]) < 5 {
		var more [][]lz.Token
		for _, row := range rows {
			for _, kind := range kinds {
				more = append(more, append(slices.Clone(row), kind))
			}
		}
		rows = more
		for _, row := range rows {
			for most := range 12 {
				b, e := lz.Bytes(row, most)
				should, error := plainBytes(row, most)
				if !bytes.Equal(b, should) || e != error {
					t.Fatalf("%v, %d: %q, %d; not %q, %d", row, most, b, e, should, error)
				}
			}
		}
	}
}

func TestBytesOfDrawnTokens(t *testing.T) {
	d := &draw{5}
	for range 300 {
		var tokens []lz.Token
		count := 0
		for range 1 + d.next(400) {
			if count == 0 || d.next(2) == 0 {
				tokens = append(tokens, one(byte(d.next(256))))
				count++
			} else {
				n := 3 + d.next(256)
				tokens = append(tokens, from(n, 1+d.next(min(count, 32768))))
				count += n
			}
		}
		should, e := plainBytes(tokens, count)
		if e != api.OK {
			t.Fatal(e)
		}
		bring(t, tokens, should)
	}
}

func TestBytesShareNothing(t *testing.T) {
	room := []lz.Token{one('a'), one('b'), {Length: 4, Distance: 2, Literal: 'x'}, one('y'), one('z')}
	before := slices.Clone(room)
	first, _ := lz.Bytes(room[:3], 6)
	if !slices.Equal(room, before) {
		t.Errorf("tokens became %v", room)
	}
	clear(room)
	if string(first) != "ababab" {
		t.Errorf("%q", first)
	}
	second, _ := lz.Bytes(before[:3], 6)
	clear(first[:cap(first)])
	if string(second) != "ababab" {
		t.Errorf("%q", second)
	}
}
