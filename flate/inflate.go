package flate

import (
	"scumble/api"
	"scumble/bits"
	"scumble/huff"
)

// none is the symbol where there is none.
const none = -1

// whole is the weight of lengths whose codes leave no room for another one.
const whole = 1 << api.MaxLength

// reader reads a stream. Of its faults the first one counts: behind it the
// numbers are 0, and there are no symbols.
type reader struct {
	in    *bits.Reader
	out   []byte
	most  int
	fault api.Errno
	fixed blockCodes // once a block has asked for them
}

// blockCodes are a block's two codes, as they are read.
type blockCodes struct {
	literals, distances *huff.Decoder
}

// Inflate gives back the bytes of the stream that b begins with, up to most,
// and tells how many bytes of b the stream takes.
func Inflate(b []byte, most int) (out []byte, used int, e api.Errno) {
	r := &reader{in: bits.Open(b, false), most: max(most, 0)}
	for last := 0; last == 0 && r.fault == api.OK; {
		last = r.number(1)
		r.block(r.number(2))
	}
	if r.fault != api.OK {
		return nil, 0, r.fault
	}
	return r.out, (r.in.At() + 7) / 8, api.OK
}

func (r *reader) fail(e api.Errno) {
	if r.fault == api.OK {
		r.fault = e
	}
}

// number is the next n bits.
func (r *reader) number(n int) int {
	if r.fault != api.OK {
		return 0
	}
	v, ok := r.in.Get(n)
	if !ok {
		r.fail(api.ErrEnd)
	}
	return v
}

// symbol is the next symbol, of the code that d reads.
func (r *reader) symbol(d *huff.Decoder) int {
	state, symbol := 0, none
	for symbol == none {
		bit := r.number(1)
		if r.fault != api.OK {
			return none
		}
		state, symbol = d.Step(state, bit)
		if state < 0 {
			r.fail(api.ErrCode)
			return none
		}
	}
	return symbol
}

func (r *reader) block(kind int) {
	if r.fault != api.OK {
		return
	}
	switch kind {
	case plain:
		r.plain()
	case fixed:
		r.symbols(r.fixedCodes())
	case told:
		c := r.toldCodes()
		if r.fault == api.OK {
			r.symbols(c)
		}
	default:
		r.fail(api.ErrForm)
	}
}

func (r *reader) plain() {
	r.in.Align()
	n := r.number(16)
	twin := r.number(16)
	if n^twin != mostPlain {
		r.fail(api.ErrForm)
	}
	r.room(n)
	for ; n > 0 && r.fault == api.OK; n-- {
		r.out = append(r.out, byte(r.number(8)))
	}
}

// room asks for room for so many bytes more.
func (r *reader) room(n int) {
	if n > r.most-len(r.out) {
		r.fail(api.ErrBig)
	}
}

// symbols reads on up to a block's end.
func (r *reader) symbols(c blockCodes) {
next:
	switch s := r.symbol(c.literals); {
	case s == none || s == end:
		return
	case s < end:
		r.literal(s)
	default:
		r.copy(s, c.distances)
	}
	if r.fault == api.OK {
		goto next
	}
}

func (r *reader) literal(s int) {
	r.room(1)
	if r.fault == api.OK {
		r.out = append(r.out, byte(s))
	}
}

// copy brings the copy of which s tells the length.
func (r *reader) copy(s int, d *huff.Decoder) {
	if s > lastLength {
		r.fail(api.ErrForm)
		return
	}
	length, extra := lengthBase(s)
	length += r.number(extra)
	distance := r.distance(d)
	if distance > len(r.out) {
		r.fail(api.ErrData)
	}
	r.room(length)
	if r.fault != api.OK {
		return
	}
	// Byte by byte, for a copy may reach into what it brings itself.
	for range length {
		r.out = append(r.out, r.out[len(r.out)-distance])
	}
}

func (r *reader) distance(d *huff.Decoder) int {
	s := r.symbol(d)
	if s == none {
		return 0
	}
	if s > lastDistance {
		r.fail(api.ErrForm)
		return 0
	}
	distance, extra := distanceBase(s)
	return distance + r.number(extra)
}

// fixedCodes makes the fixed codes but once, as blocks may be short and many.
func (r *reader) fixedCodes() blockCodes {
	if r.fixed.literals == nil {
		r.fixed = read(fixedLengths())
	}
	return r.fixed
}

// read makes the codes of lengths that aren't too many.
func read(l blockLengths) blockCodes {
	literals, _ := huff.NewDecoder(l.literals)
	distances, _ := huff.NewDecoder(l.distances)
	return blockCodes{literals, distances}
}

// toldCodes reads codes as a block tells them.
func (r *reader) toldCodes() blockCodes {
	hl := r.number(literalsBits) + leastLiterals
	hd := r.number(distancesBits) + leastDistances
	hc := r.number(ownBits) + leastOwn
	if hl > lastLength+1 || hd > lastDistance+1 {
		r.fail(api.ErrForm)
	}
	all := r.toldLengths(r.ownCode(hc), hl+hd)
	if r.fault != api.OK {
		return blockCodes{}
	}
	l := blockLengths{all[:hl], all[hl:]}
	if !right(l.literals) || !right(l.distances) && weight(l.distances) != 0 {
		r.fail(api.ErrCode)
		return blockCodes{}
	}
	return read(l)
}

// ownCode reads the code of lengths, of which so many lengths are told.
func (r *reader) ownCode(n int) *huff.Decoder {
	own := make([]int, ownSymbols)
	for i := range n {
		own[order[i]] = r.number(lengthBits)
	}
	if weight(own) != whole {
		r.fail(api.ErrCode)
		return nil
	}
	d, _ := huff.NewDecoder(own)
	return d
}

// toldLengths reads so many lengths, of the code that d reads.
func (r *reader) toldLengths(d *huff.Decoder, n int) []int {
	var all []int
	for r.fault == api.OK && len(all) < n {
		length, times := r.run(d, all)
		if times > n-len(all) {
			r.fail(api.ErrCode)
		}
		for range times {
			all = append(all, length)
		}
	}
	return all
}

// run reads a length that stands so many times behind those ahead.
func (r *reader) run(d *huff.Decoder, ahead []int) (length int, times int) {
	s := r.symbol(d)
	switch s {
	case none:
		return 0, 0
	case repeat:
		times = 3 + r.number(2)
		if len(ahead) == 0 {
			r.fail(api.ErrCode)
			return 0, 0
		}
		return ahead[len(ahead)-1], times
	case fewNoughts:
		return 0, 3 + r.number(3)
	case noughts:
		return 0, 11 + r.number(7)
	}
	return s, 1
}

// right tells whether lengths are whole, or a single one of 1.
func right(lengths []int) bool {
	w := weight(lengths)
	return w == whole || w == whole/2 && coded(lengths) == 1
}

// weight is the weight of lengths that are no more and no greater than layer 4
// takes.
func weight(lengths []int) int {
	w, _ := huff.Weight(lengths)
	return w
}

// coded is how many symbols have a code.
func coded(lengths []int) int {
	count := 0
	for _, n := range lengths {
		if n != 0 {
			count++
		}
	}
	return count
}
