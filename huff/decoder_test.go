package huff_test

import (
	"math"
	"slices"
	"testing"

	"scumble/huff"
)

func decoder(t *testing.T, lengths []int) *huff.Decoder {
	t.Helper()
	d, ok := huff.NewDecoder(lengths)
	if !ok || d == nil {
		t.Fatalf("NewDecoder(%v): %v, %v", lengths, d, ok)
	}
	return d
}

// steps tells where a step doesn't answer this.
func steps(t *testing.T, d *huff.Decoder, state int, bit int, next int, symbol int) {
	t.Helper()
	if n, s := d.Step(state, bit); n != next || s != symbol {
		t.Errorf("Step(%d, %d): %d, %d; not %d, %d", state, bit, n, s, next, symbol)
	}
}

// walk is a decoder that is gone through from its beginning by all bits.
type walk struct {
	d      *huff.Decoder
	ends   map[string]int // symbols, by their codes
	amid   map[string]int // how many codes begin so, and go on
	states map[int]bool   // that were told
}

// walked tells where a decoder of lengths doesn't read their codes.
func walked(t *testing.T, lengths []int) *walk {
	t.Helper()
	w := &walk{decoder(t, lengths), map[string]int{}, map[string]int{}, map[int]bool{0: true}}
	for s, text := range plainCodes(lengths) {
		if text == "" {
			continue
		}
		w.ends[text] = s
		for n := range text {
			w.amid[text[:n]]++
		}
	}
	w.on(t, 0, "")
	w.untold(t)
	return w
}

// on goes both ways on from a state that text led to.
func (w *walk) on(t *testing.T, state int, text string) {
	t.Helper()
	for bit, digit := range []string{"0", "1"} {
		more := text + digit
		next, symbol := w.d.Step(state, bit)
		for _, other := range []int{bit + 2, bit - 2, bit + 1<<40, bit + math.MaxInt - 1, bit + math.MinInt} {
			steps(t, w.d, state, other, next, symbol)
		}
		if s, ok := w.ends[more]; ok {
			steps(t, w.d, state, bit, 0, s)
		} else if w.amid[more] == 0 {
			steps(t, w.d, state, bit, -1, -1)
		} else if next <= 0 || symbol != -1 {
			t.Errorf("behind %s: %d, %d", more, next, symbol)
		} else {
			w.states[next] = true
			w.on(t, next, more)
		}
	}
}

// untold tries states that no step has told.
func (w *walk) untold(t *testing.T) {
	t.Helper()
	states := []int{math.MinInt, -1 << 40, 1 << 16, 1 << 20, 1 << 40, math.MaxInt}
	for state := -400; state < 2*len(w.states)+400; state++ {
		states = append(states, state)
	}
	for _, state := range states {
		if !w.states[state] {
			steps(t, w.d, state, 0, -1, -1)
			steps(t, w.d, state, 1, -1, -1)
		}
	}
}

func TestDecoderOfTheExample(t *testing.T) {
	d := decoder(t, []int{1, 3, 3, 0, 2})
	state, symbols := 0, []int{}
	for _, bit := range []int{0, 1, 1, 0, 1, 0, 1, 1, 1, 0} {
		next, symbol := d.Step(state, bit)
		if symbol >= 0 && next != 0 || symbol < 0 && next <= 0 {
			t.Errorf("Step(%d, %d): %d, %d", state, bit, next, symbol)
		}
		if symbol >= 0 {
			symbols = append(symbols, symbol)
		}
		state = next
	}
	if !slices.Equal(symbols, []int{0, 1, 4, 2, 0}) {
		t.Error(symbols)
	}
}

func TestDecoderOfNothing(t *testing.T) {
	for _, lengths := range [][]int{nil, {}, {0}, same(300, 0)} {
		d := decoder(t, lengths)
		steps(t, d, 0, 0, -1, -1)
		steps(t, d, 0, 1, -1, -1)
		walked(t, lengths)
	}
}

func TestDecoderOfOneSymbol(t *testing.T) {
	d := decoder(t, []int{0, 0, 1})
	steps(t, d, 0, 0, 0, 2)
	steps(t, d, 0, 1, -1, -1)
	steps(t, decoder(t, []int{1}), 0, 0, 0, 0)
	steps(t, decoder(t, append(same(299, 0), 1)), 0, 0, 0, 299)
	for n := 1; n <= 16; n++ {
		walked(t, []int{n})
		walked(t, append(same(299, 0), n))
	}
}

func TestOnlyTheLowestBitCounts(t *testing.T) {
	d := decoder(t, []int{1, 1})
	for _, bit := range []int{0, 2, -2, 4, 1 << 40, math.MinInt} {
		steps(t, d, 0, bit, 0, 0)
	}
	for _, bit := range []int{1, 3, -1, -3, 1<<40 + 1, math.MaxInt} {
		steps(t, d, 0, bit, 0, 1)
	}
}

func TestDecodersOfAllShortLists(t *testing.T) {
	for _, lengths := range lists(4, 0, 1, 2, 3, 4, 5) {
		if plainWeight(lengths, 16) <= 1<<16 {
			walked(t, lengths)
		} else {
			noCodes(t, lengths)
		}
	}
}

func TestDecodersOfLongCodes(t *testing.T) {
	for n := 1; n <= 16; n++ {
		walked(t, upTo(n))
		walked(t, upTo(n)[:n])
	}
	walked(t, same(256, 8))
	walked(t, same(300, 9))
	walked(t, same(300, 16))
}

func TestDecodersOfDrawnLengths(t *testing.T) {
	d := &draw{6}
	for range 100 {
		walked(t, drawn(d))
	}
}

// Symbols one behind the other are read as they were written.
func TestReadingOnAndOn(t *testing.T) {
	r := &draw{7}
	for range 50 {
		counts := r.list(1+r.next(300), 50)
		counts[0]++
		lengths, _ := huff.Lengths(counts, 9+r.next(8))
		d, texts := decoder(t, lengths), plainCodes(lengths)
		state := 0
		for range 500 {
			s := r.next(len(texts))
			for i, digit := range texts[s] {
				next, symbol := d.Step(state, int(digit))
				if i+1 < len(texts[s]) && (next <= 0 || symbol != -1) || i+1 == len(texts[s]) && (next != 0 || symbol != s) {
					t.Fatalf("amid the code %s of %d: %d, %d", texts[s], s, next, symbol)
				}
				state = next
			}
		}
	}
}

// A decoder reads on in any state, whatever it was asked ahead, and whatever
// becomes of the lengths that it was made of.
func TestDecoderKeepsWhatItIs(t *testing.T) {
	room := []int{1, 3, 3, 0, 2, 77, 78}
	d := decoder(t, room[:5])
	if !slices.Equal(room, []int{1, 3, 3, 0, 2, 77, 78}) {
		t.Errorf("lengths became %v", room)
	}
	clear(room)
	amid, _ := d.Step(0, 1)
	d.Step(amid, 1)
	d.Step(-1, 1)
	d.Step(1000, 0)
	for range 3 {
		steps(t, d, amid, 0, 0, 4)
		steps(t, d, 0, 0, 0, 0)
		steps(t, d, 0, 1, amid, -1)
	}
	other := decoder(t, []int{2, 2, 2, 2})
	steps(t, d, amid, 0, 0, 4)
	state, _ := other.Step(0, 1)
	steps(t, other, state, 0, 0, 2)
}
