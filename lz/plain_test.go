package lz_test

import (
	"slices"

	"scumble/api"
	"scumble/lz"
)

// draw is a row of numbers that looks without a rule, alike at each run.
type draw struct{ state uint32 }

func (d *draw) next(n int) int {
	d.state = d.state*1664525 + 1013904223
	return int(d.state>>8) % n
}

// text is one of n bytes, of so many letters.
func (d *draw) text(n int, letters int) []byte {
	b := make([]byte, n)
	for i := range b {
		b[i] = byte(d.next(letters))
	}
	return b
}

// again is a text of n bytes into which pieces of 3 to most bytes that stood
// up to so far ahead are laid again and again.
func (d *draw) again(n int, letters int, most int, far int) []byte {
	b := d.text(n, letters)
	for at := 1; at < n; at += 1 + d.next(2*most) {
		from := at - 1 - d.next(min(at, far))
		for range 3 + d.next(most-2) {
			if at < n {
				b[at] = b[from]
				at, from = at+1, from+1
			}
		}
	}
	return b
}

// texts are all texts of n bytes of these letters.
func texts(n int, letters string) []string {
	all := []string{""}
	for range n {
		var more []string
		for _, text := range all {
			for _, x := range letters {
				more = append(more, text+string(x))
			}
		}
		all = more
	}
	return all
}

// one is the token of a byte.
func one(x byte) lz.Token { return lz.Token{Literal: x} }

// ones are the tokens of bytes, one by one.
func ones(b []byte) []lz.Token {
	var tokens []lz.Token
	for _, x := range b {
		tokens = append(tokens, one(x))
	}
	return tokens
}

// from is the token of a copy.
func from(length int, distance int) lz.Token {
	return lz.Token{Length: length, Distance: distance}
}

// plainBytes are the bytes of tokens, looked up place by place: what a copy
// reaches of itself are the bytes at its source once more. Of the first wrong
// token it tells the error.
func plainBytes(tokens []lz.Token, most int) ([]byte, api.Errno) {
	var b []byte
	for _, t := range tokens {
		piece := []byte{t.Literal}
		if t.Length != 0 {
			if t.Length < 3 || t.Length > 258 || t.Distance < 1 || t.Distance > 32768 || t.Distance > len(b) {
				return nil, api.ErrData
			}
			source := b[len(b)-t.Distance:]
			piece = nil
			for i := range t.Length {
				piece = append(piece, source[i%t.Distance])
			}
		}
		b = slices.Concat(b, piece)
		if len(b) > most {
			return nil, api.ErrBig
		}
	}
	return b, api.OK
}

// stoodAhead tells of each place whether three bytes from it are the same as
// three that begin 1 to 32768 bytes ahead.
func stoodAhead(b []byte) []bool {
	stood := make([]bool, len(b))
	last := map[[3]byte]int{}
	for at := 0; at+3 <= len(b); at++ {
		text := [3]byte(b[at:])
		before, ok := last[text]
		stood[at] = ok && at-before <= 32768
		last[text] = at
	}
	return stood
}
