package bits_test

import (
	"strconv"
	"testing"

	"scumble/bits"
)

// plain is a row of bits as a text of 0 and 1, each written and read alone.
type plain struct {
	high bool
	row  string
	at   int
}

// digits are a number's n bits in the order in which they are written.
func (p *plain) digits(v int, n int) string {
	text := ""
	for range n {
		if p.high {
			text = strconv.Itoa(v%2) + text
		} else {
			text += strconv.Itoa(v % 2)
		}
		v /= 2
	}
	return text
}

// number is what such digits tell.
func (p *plain) number(text string) int {
	v, weight := 0, 1
	for i := range len(text) {
		if p.high {
			v = 2*v + int(text[i]-'0')
		} else {
			v += weight * int(text[i]-'0')
			weight *= 2
		}
	}
	return v
}

func (p *plain) put(v int, n int) bool {
	if n < 0 || n > 24 || v < 0 {
		return false
	}
	text := p.digits(v, n)
	if p.number(text) != v {
		return false
	}
	p.row += text
	return true
}

func (p *plain) fill(bit int) {
	for len(p.row)%8 != 0 {
		if bit%2 == 0 {
			p.row += "0"
		} else {
			p.row += "1"
		}
	}
}

// bytes are the row's; a byte is read as a number of eight bits is.
func (p *plain) bytes() string {
	row := p.row
	for len(row)%8 != 0 {
		row += "0"
	}
	b := []byte{}
	for ; row != ""; row = row[8:] {
		b = append(b, byte(p.number(row[:8])))
	}
	return string(b)
}

func (p *plain) get(n int) (int, bool) {
	if n < 0 || n > 24 || n > len(p.row)-p.at {
		return 0, false
	}
	p.at += n
	return p.number(p.row[p.at-n : p.at]), true
}

func (p *plain) align() {
	for p.at%8 != 0 {
		p.at++
	}
}

// draw is a row of numbers that looks without a rule, alike at each run.
type draw struct{ state uint32 }

func (d *draw) next(n int) int {
	d.state = d.state*1664525 + 1013904223
	return int(d.state>>8) % n
}

func sameWriter(t *testing.T, w *bits.Writer, p *plain) {
	t.Helper()
	if w.Count() != len(p.row) || string(w.Bytes()) != p.bytes() {
		t.Fatalf("high %v: Count %d, %x; not %d, %x", p.high, w.Count(), w.Bytes(), len(p.row), p.bytes())
	}
}

func sameReader(t *testing.T, r *bits.Reader, p *plain) {
	t.Helper()
	if r.At() != p.at || r.Left() != len(p.row)-p.at {
		t.Fatalf("high %v: At %d, Left %d; not %d, %d", p.high, r.At(), r.Left(), p.at, len(p.row)-p.at)
	}
}

func TestScriptsAgainstThePlainWriter(t *testing.T) {
	d := &draw{1}
	for script := range 400 {
		high := script%2 == 1
		w, p := bits.New(high), &plain{high: high}
		for range 40 {
			if d.next(8) == 0 {
				bit := d.next(5) - 2
				w.Fill(bit)
				p.fill(bit)
			} else {
				n := d.next(28) - 1
				v := d.next(1<<max(min(n+d.next(2), 24), 0)) - d.next(2)
				if got, should := w.Put(v, n), p.put(v, n); got != should {
					t.Fatalf("high %v: Put(%d, %d): %v", high, v, n, got)
				}
			}
			sameWriter(t, w, p)
		}
	}
}

func TestScriptsAgainstThePlainReader(t *testing.T) {
	d := &draw{2}
	for script := range 400 {
		high := script%2 == 1
		p := &plain{high: high}
		b := make([]byte, d.next(40))
		for i := range b {
			b[i] = byte(d.next(256))
			p.put(int(b[i]), 8)
		}
		r := bits.Open(b, high)
		for range 40 {
			if d.next(6) == 0 {
				r.Align()
				p.align()
			} else {
				n := d.next(28) - 1
				got, ok := r.Get(n)
				if should, is := p.get(n); got != should || ok != is {
					t.Fatalf("high %v: Get(%d): %d, %v; not %d, %v", high, n, got, ok, should, is)
				}
			}
			sameReader(t, r, p)
		}
	}
}

// Each number of bits at each place in a byte, the least and the greatest
// number of so many, and one with a bit at either end.
func TestEachNumberOfBitsAtEachPlace(t *testing.T) {
	for _, high := range []bool{false, true} {
		for ahead := range 8 {
			for n := range 25 {
				for _, v := range []int{0, 1<<n - 1, 1 << n / 2, 1 << n / 2 * 3 / 2} {
					roundTrip(t, high, ahead, v, n)
				}
			}
		}
	}
}

// roundTrip writes v with n bits behind a few others and reads it again.
func roundTrip(t *testing.T, high bool, ahead int, v int, n int) {
	t.Helper()
	w, p := bits.New(high), &plain{high: high}
	for _, x := range [][2]int{{1<<ahead - 1, ahead}, {v, n}, {1, 1}} {
		if !w.Put(x[0], x[1]) || !p.put(x[0], x[1]) {
			t.Fatalf("high %v: Put(%d, %d)", high, x[0], x[1])
		}
	}
	sameWriter(t, w, p)
	r := bits.Open(w.Bytes(), high)
	r.Get(ahead)
	if got, ok := r.Get(n); got != v || !ok {
		t.Errorf("high %v, behind %d bits: Get(%d): %d, %v; not %d", high, ahead, n, got, ok, v)
	}
	if got, ok := r.Get(1); got != 1 || !ok {
		t.Errorf("high %v: the bit behind %d bits of %d is %d", high, n, v, got)
	}
}
