package flate_test

import (
	"bytes"
	goflate "compress/flate"
	"io"
	"sync"
	"testing"

	"scumble/api"
)

// draw is a row of numbers that looks without a rule, alike at each run.
type draw struct{ state uint32 }

func (d *draw) next(n int) int {
	d.state = d.state*1664525 + 1013904223
	return int(d.state>>8) % n
}

// text is a text of n bytes, of so many letters.
func (d *draw) text(n int, letters int) []byte {
	b := make([]byte, n)
	for i := range b {
		b[i] = byte(d.next(letters))
	}
	return b
}

// again is a text of n bytes into which pieces of 3 to most bytes that stood
// up to so far ahead are laid again and again.
func (d *draw) again(n int, letters int, most int, far int) []byte {
	b := d.text(n, letters)
	for at := 1; at < n; at += 1 + d.next(2*most) {
		from := at - 1 - d.next(min(at, far))
		for range 3 + d.next(most-2) {
			if at < n {
				b[at] = b[from]
				at, from = at+1, from+1
			}
		}
	}
	return b
}

// whole are n lengths of codes that are whole, or the single length 1: of all
// room some part is cut in two until there are enough.
func (d *draw) whole(n int) []int {
	if n == 1 {
		return []int{1}
	}
	rooms := []int{0}
	for len(rooms) < n {
		if at := d.next(len(rooms)); rooms[at] < 15 {
			rooms[at]++
			rooms = append(rooms, rooms[at])
		}
	}
	return rooms
}

// draft is a stream laid by hand.
type draft struct {
	bits  []int
	stays bool // it was filled up to a byte's first bit
}

// num lays a number with n bits, the lowest first.
func (d *draft) num(v int, n int) *draft {
	for i := range n {
		d.bits = append(d.bits, v>>i&1)
	}
	return d
}

// code lays bits as they are told.
func (d *draft) code(text string) *draft {
	for _, x := range text {
		d.bits = append(d.bits, int(x-'0'))
	}
	return d
}

// fill lays bits up to a byte's first.
func (d *draft) fill(bit int) *draft {
	d.stays = true
	for len(d.bits)%8 != 0 {
		d.bits = append(d.bits, bit)
	}
	return d
}

// begin lays what each block begins with.
func (d *draft) begin(last int, kind int) *draft { return d.num(last, 1).num(kind, 2) }

// plain lays a block of the kind 0.
func (d *draft) plain(last int, b string) *draft {
	d.begin(last, 0).fill(0).num(len(b), 16).num(65535-len(b), 16)
	for _, x := range []byte(b) {
		d.num(int(x), 8)
	}
	return d
}

// bytes are the bits laid, with noughts for those that lack.
func (d *draft) bytes() []byte {
	b := make([]byte, (len(d.bits)+7)/8)
	for i, bit := range d.bits {
		b[i/8] |= byte(bit << (i % 8))
	}
	return b
}

// book is two codes as texts.
type book struct{ literals, distances []string }

// fixedBook are the fixed codes, by the table of RFC 1951; they are made but
// once.
var fixedBook = sync.OnceValue(func() book {
	var k book
	for s := range 288 {
		switch {
		case s < 144:
			k.literals = append(k.literals, binary(0b00110000+s, 8))
		case s < 256:
			k.literals = append(k.literals, binary(0b110010000+s-144, 9))
		case s < 280:
			k.literals = append(k.literals, binary(s-256, 7))
		default:
			k.literals = append(k.literals, binary(0b11000000+s-280, 8))
		}
	}
	for s := range 32 {
		k.distances = append(k.distances, binary(s, 5))
	}
	return k
})

// toldBook are the codes of lengths.
func toldBook(literals []int, distances []int) book {
	return book{plainCodes(literals), plainCodes(distances)}
}

// text lays bytes with a code.
func (d *draft) text(k book, text string) *draft {
	for _, x := range []byte(text) {
		d.code(k.literals[x])
	}
	return d
}

// copy lays a copy.
func (d *draft) copy(k book, length int, distance int) *draft {
	for s := 28; s >= 0; s-- {
		if length >= lengthBases[s] {
			d.code(k.literals[257+s]).num(length-lengthBases[s], lengthExtras[s])
			break
		}
	}
	for s := 29; s >= 0; s-- {
		if distance >= distanceBases[s] {
			return d.code(k.distances[s]).num(distance-distanceBases[s], distanceExtras[s])
		}
	}
	return d
}

// end lays a block's end.
func (d *draft) end(k book) *draft { return d.code(k.literals[256]) }

// The tables of RFC 1951.
var (
	lengthBases    = []int{3, 4, 5, 6, 7, 8, 9, 10, 11, 13, 15, 17, 19, 23, 27, 31, 35, 43, 51, 59, 67, 83, 99, 115, 131, 163, 195, 227, 258}
	lengthExtras   = []int{0, 0, 0, 0, 0, 0, 0, 0, 1, 1, 1, 1, 2, 2, 2, 2, 3, 3, 3, 3, 4, 4, 4, 4, 5, 5, 5, 5, 0}
	distanceBases  = []int{1, 2, 3, 4, 5, 7, 9, 13, 17, 25, 33, 49, 65, 97, 129, 193, 257, 385, 513, 769, 1025, 1537, 2049, 3073, 4097, 6145, 8193, 12289, 16385, 24577}
	distanceExtras = []int{0, 0, 0, 0, 1, 1, 2, 2, 3, 3, 4, 4, 5, 5, 6, 6, 7, 7, 8, 8, 9, 9, 10, 10, 11, 11, 12, 12, 13, 13}
	ownOrder       = []int{16, 17, 18, 0, 8, 7, 9, 6, 10, 5, 11, 4, 12, 3, 13, 2, 14, 1, 15}
)

// anyOwn are lengths of the code of lengths in which all symbols have a code.
var anyOwn = []int{4, 4, 4, 4, 4, 4, 4, 4, 4, 4, 4, 4, 4, 5, 5, 5, 5, 5, 5}

// told lays the head of a block of the kind 2: its lengths one by one, without
// runs.
func (d *draft) told(last int, literals []int, distances []int) *draft {
	d.open(last, len(literals), len(distances))
	return d.lengths(literals...).lengths(distances...)
}

// open begins a block of the kind 2 with so many lengths.
func (d *draft) open(last int, literals int, distances int) *draft {
	return d.begin(last, 2).num(literals-257, 5).num(distances-1, 5).own(anyOwn)
}

// lengths lays lengths one by one.
func (d *draft) lengths(list ...int) *draft {
	codes := plainCodes(anyOwn)
	for _, n := range list {
		d.code(codes[n])
	}
	return d
}

// run lays a run of so many lengths: with 16 of the one ahead, with 17 or 18 of
// noughts.
func (d *draft) run(symbol int, times int) *draft {
	d.code(plainCodes(anyOwn)[symbol])
	switch symbol {
	case 16:
		return d.num(times-3, 2)
	case 17:
		return d.num(times-3, 3)
	}
	return d.num(times-11, 7)
}

// own lays all lengths of the code of lengths, and how many they are.
func (d *draft) own(lengths []int) *draft {
	d.num(15, 4)
	for _, s := range ownOrder {
		d.num(lengths[s], 3)
	}
	return d
}

// listed is a list of so many lengths, 0 but where these pairs of a symbol and
// its length say.
func listed(n int, pairs ...[2]int) []int {
	list := make([]int, n)
	for _, p := range pairs {
		list[p[0]] = p[1]
	}
	return list
}

// plainCodes gives each symbol its code as a text of 0 and 1.
func plainCodes(lengths []int) []string {
	texts := make([]string, len(lengths))
	next := 0
	for n := 1; n <= 15; n++ {
		next *= 2
		for s, length := range lengths {
			if length == n {
				texts[s] = binary(next, n)
				next++
			}
		}
	}
	return texts
}

// binary are a number's lowest n bits, the highest first.
func binary(v int, n int) string {
	text := ""
	for range n {
		text = string(rune('0'+v%2)) + text
		v /= 2
	}
	return text
}

// plainReader reads a stream bit by bit as the chapter says it; a fault is a
// panic with its number.
type plainReader struct {
	b    []byte
	at   int
	out  []byte
	most int
}

func (p *plainReader) num(n int) int {
	v := 0
	for i := range n {
		if p.at == 8*len(p.b) {
			panic(api.ErrEnd)
		}
		v += int(p.b[p.at/8]) >> (p.at % 8) & 1 << i
		p.at++
	}
	return v
}

// tree has the symbols of all codes, and 'amid' for all their beginnings.
type tree map[string]int

const amid = -1

func treeOf(codes []string) tree {
	t := tree{}
	for s, code := range codes {
		for n := range code {
			t[code[:n]] = amid
		}
		if code != "" {
			t[code] = s
		}
	}
	return t
}

// fixedTrees are made but once.
var fixedTrees = sync.OnceValues(func() (literals tree, distances tree) {
	k := fixedBook()
	return treeOf(k.literals), treeOf(k.distances)
})

func (p *plainReader) symbol(t tree) int {
	text := ""
	for {
		text += string(rune('0' + p.num(1)))
		s, ok := t[text]
		if !ok {
			panic(api.ErrCode)
		}
		if s != amid {
			return s
		}
	}
}

// plainRight tells whether the rooms of codes fill all of it, or there is but
// one, of half of it, or, where none may be, none.
func plainRight(lengths []int, none bool) bool {
	sum, count := 0, 0
	for _, n := range lengths {
		if n > 0 {
			sum += 1 << (15 - n)
			count++
		}
	}
	return sum == 1<<15 || count == 1 && sum == 1<<14 || count == 0 && none
}

func (p *plainReader) head() (literals tree, distances tree) {
	hl, hd, hc := p.num(5), p.num(5), p.num(4)
	if hl > 29 || hd > 29 {
		panic(api.ErrForm)
	}
	own := make([]int, 19)
	for _, s := range ownOrder[:hc+4] {
		own[s] = p.num(3)
	}
	sum := 0
	for _, n := range own {
		if n > 0 {
			sum += 128 >> n
		}
	}
	if sum != 128 {
		panic(api.ErrCode)
	}
	all := p.lengths(treeOf(plainCodes(own)), hl+hd+258)
	if !plainRight(all[:hl+257], false) || !plainRight(all[hl+257:], true) {
		panic(api.ErrCode)
	}
	return treeOf(plainCodes(all[:hl+257])), treeOf(plainCodes(all[hl+257:]))
}

func (p *plainReader) lengths(own tree, n int) []int {
	var all []int
	for len(all) < n {
		s := p.symbol(own)
		times, length := 1, s
		if s == 16 {
			times = 3 + p.num(2)
			if len(all) == 0 {
				panic(api.ErrCode)
			}
			length = all[len(all)-1]
		} else if s == 17 {
			times, length = 3+p.num(3), 0
		} else if s == 18 {
			times, length = 11+p.num(7), 0
		}
		for range times {
			all = append(all, length)
		}
	}
	if len(all) > n {
		panic(api.ErrCode)
	}
	return all
}

func (p *plainReader) bring(b ...byte) {
	if len(p.out)+len(b) > p.most {
		panic(api.ErrBig)
	}
	p.out = append(p.out, b...)
}

func (p *plainReader) body(literals tree, distances tree) {
	for {
		s := p.symbol(literals)
		if s == 256 {
			return
		}
		if s < 256 {
			p.bring(byte(s))
			continue
		}
		if s > 285 {
			panic(api.ErrForm)
		}
		length := lengthBases[s-257] + p.num(lengthExtras[s-257])
		s = p.symbol(distances)
		if s > 29 {
			panic(api.ErrForm)
		}
		distance := distanceBases[s] + p.num(distanceExtras[s])
		if distance > len(p.out) {
			panic(api.ErrData)
		}
		// What the copy reaches of itself is its source once more.
		source := p.out[len(p.out)-distance:]
		var piece []byte
		for len(piece) < length {
			piece = append(piece, source[len(piece)%distance])
		}
		p.bring(piece...)
	}
}

func (p *plainReader) plain() {
	p.at = (p.at + 7) / 8 * 8
	n, twin := p.num(16), p.num(16)
	if n+twin != 65535 || n&twin != 0 {
		panic(api.ErrForm)
	}
	if len(p.out)+n > p.most {
		panic(api.ErrBig)
	}
	for range n {
		p.out = append(p.out, byte(p.num(8)))
	}
}

func plainInflate(b []byte, most int) (out []byte, used int, e api.Errno) {
	defer func() {
		if fault := recover(); fault != nil {
			out, used, e = nil, 0, fault.(api.Errno)
		}
	}()
	p := &plainReader{b: b, most: max(most, 0)}
	for last := 0; last == 0; {
		last = p.num(1)
		switch p.num(2) {
		case 0:
			p.plain()
		case 1:
			p.body(fixedTrees())
		case 2:
			p.body(p.head())
		default:
			panic(api.ErrForm)
		}
	}
	return p.out, (p.at + 7) / 8, api.OK
}

// packedElsewhere is the stream that the library of Go makes of b; its level
// -2 is codes alone, 0 plain blocks.
func packedElsewhere(t *testing.T, b []byte, level int) []byte {
	t.Helper()
	var room bytes.Buffer
	w, err := goflate.NewWriter(&room, level)
	if err != nil {
		t.Fatal(err)
	}
	w.Write(b)
	w.Close()
	return room.Bytes()
}

// readElsewhere is what the library of Go reads of a stream.
func readElsewhere(t *testing.T, b []byte) []byte {
	t.Helper()
	out, err := io.ReadAll(goflate.NewReader(bytes.NewReader(b)))
	if err != nil {
		t.Errorf("read elsewhere: %v", err)
	}
	return out
}
