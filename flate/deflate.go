package flate

import (
	"scumble/bits"
	"scumble/huff"
	"scumble/lz"
)

// pieceSize is for how many bytes copies are found at a time, as their tokens
// take many times the room of the bytes.
const pieceSize = 1 << 20

// blockTokens is how many tokens a block has at most: so many that its codes
// are worth telling, so few that they fit what it holds.
const blockTokens = 1 << 14

// The greatest lengths that the codes of a block, and the code of their
// lengths, may have.
const (
	mostLength    = 15
	mostOwnLength = 1<<lengthBits - 1
)

// stream is a stream that is written.
type stream struct {
	*bits.Writer
}

// Deflate packs b as a stream, of at most as many bytes as plain blocks of it
// have: with an effort of 0 or less without copies; with a greater one longer
// copies are looked for, up to a bound.
func Deflate(b []byte, effort int) []byte {
	s := stream{bits.New(false)}
	rest := b
	for len(rest) > pieceSize {
		s.piece(rest[:pieceSize], effort, 0)
		rest = rest[pieceSize:]
	}
	s.piece(rest, effort, 1)
	if (s.Count()+7)/8 > len(b)+5*plainBlocks(len(b)) {
		s = stream{bits.New(false)}
		s.plain(b, 1)
	}
	return s.Bytes()
}

// piece writes blocks of bytes; last is 1 if the last one of them is the
// stream's.
func (s stream) piece(b []byte, effort int, last int) {
	tokens := lz.Find(b, effort)
	for len(tokens) > blockTokens {
		n := size(tokens[:blockTokens])
		s.block(tokens[:blockTokens], b[:n], 0)
		tokens, b = tokens[blockTokens:], b[n:]
	}
	s.block(tokens, b, last)
}

// size is how many bytes tokens bring.
func size(tokens []lz.Token) int {
	n := 0
	for _, t := range tokens {
		n += max(t.Length, 1)
	}
	return n
}

// block writes a block of the kind that takes the fewest bits; b is what its
// tokens bring.
func (s stream) block(tokens []lz.Token, b []byte, last int) {
	u := usesOf(tokens)
	known, own := fixedLengths(), u.lengths()
	h := headOf(own)
	fixedBits := u.bits(known)
	toldBits := h.bits() + u.bits(own)
	switch {
	case s.plainBits(len(b)) <= min(fixedBits, toldBits):
		s.plain(b, last)
	case fixedBits <= toldBits:
		s.begin(last, fixed)
		s.tokens(tokens, known)
	default:
		s.begin(last, told)
		s.head(h)
		s.tokens(tokens, own)
	}
}

func (s stream) begin(last int, kind int) {
	s.Put(last, 1)
	s.Put(kind, 2)
}

// plain writes bytes as they are, in as many blocks as they need.
func (s stream) plain(b []byte, last int) {
	for len(b) > mostPlain {
		s.plainBlock(b[:mostPlain], 0)
		b = b[mostPlain:]
	}
	s.plainBlock(b, last)
}

func (s stream) plainBlock(b []byte, last int) {
	s.begin(last, plain)
	s.Fill(0)
	s.Put(len(b), 16)
	s.Put(len(b)^mostPlain, 16)
	for _, x := range b {
		s.Put(int(x), 8)
	}
}

// plainBlocks is how many plain blocks so many bytes need.
func plainBlocks(n int) int { return max(n-1, 0)/mostPlain + 1 }

// plainBits is how many bits plain blocks would take from here on, without the
// three that each kind's block begins with.
func (s stream) plainBits(n int) int {
	fill := -(s.Count() + 3) & 7
	return fill + 32 + 40*(plainBlocks(n)-1) + 8*n
}

// uses is how often a block's symbols occur, and how many extra bits they have
// in all.
type uses struct {
	literals, distances []int
	extra               int
}

func usesOf(tokens []lz.Token) uses {
	u := uses{literals: make([]int, lastLength+1), distances: make([]int, lastDistance+1)}
	for _, t := range tokens {
		if t.Length == 0 {
			u.literals[t.Literal]++
			continue
		}
		length, distance := lengthWord(t.Length), distanceWord(t.Distance)
		u.literals[length.symbol]++
		u.distances[distance.symbol]++
		u.extra += length.extra + distance.extra
	}
	u.literals[end]++
	return u
}

// lengths are those that fit the symbols best, without the noughts at their
// ends that needn't be told.
func (u uses) lengths() blockLengths {
	literals, _ := huff.Lengths(u.literals, mostLength)
	distances, _ := huff.Lengths(u.distances, mostLength)
	return blockLengths{trimmed(literals, leastLiterals), trimmed(distances, leastDistances)}
}

// trimmed are lengths without the noughts at their end, but at least so many.
func trimmed(lengths []int, least int) []int {
	n := len(lengths)
	for n > least && lengths[n-1] == 0 {
		n--
	}
	return lengths[:n]
}

// bits is how many bits the symbols take with codes of these lengths.
func (u uses) bits(l blockLengths) int {
	return cost(u.literals, l.literals) + cost(u.distances, l.distances) + u.extra
}

// cost is how many bits symbols take that occur so often; those without a
// length don't occur.
func cost(counts []int, lengths []int) int {
	sum := 0
	for s, n := range lengths[:min(len(lengths), len(counts))] {
		sum += n * counts[s]
	}
	return sum
}

// tokens writes symbols with codes of these lengths, up to the block's end.
func (s stream) tokens(tokens []lz.Token, l blockLengths) {
	literals, distances := coderOf(l.literals), coderOf(l.distances)
	for _, t := range tokens {
		if t.Length == 0 {
			s.word(literals, word{symbol: int(t.Literal)})
			continue
		}
		s.word(literals, lengthWord(t.Length))
		s.word(distances, distanceWord(t.Distance))
	}
	s.word(literals, word{symbol: end})
}

func (s stream) word(c coder, w word) {
	s.Put(c.turned[w.symbol], c.lengths[w.symbol])
	s.Put(w.more, w.extra)
}

// coder is a code as it is written.
type coder struct {
	lengths []int
	turned  []int // the codes, each with its highest bit as the lowest one
}

func coderOf(lengths []int) coder {
	codes, _ := huff.Codes(lengths)
	for s, n := range lengths {
		codes[s] = turned(codes[s], n)
	}
	return coder{lengths, codes}
}

// turned are a number's lowest n bits, the highest of them as the lowest one.
func turned(v int, n int) int {
	around := 0
	for range n {
		around = around<<1 | v&1
		v >>= 1
	}
	return around
}

// head is what a block tells of its codes.
type head struct {
	literals, distances int // how many lengths of each
	runs                []word
	own                 []int // the lengths of the runs' code
	n                   int   // how many of them are told
}

func headOf(l blockLengths) head {
	h := head{literals: len(l.literals), distances: len(l.distances)}
	h.runs = append(runsOf(l.literals), runsOf(l.distances)...)
	counts := make([]int, ownSymbols)
	for _, w := range h.runs {
		counts[w.symbol]++
	}
	// A single run's symbol would have a code that isn't whole. But there are
	// at least two, for the literals' lengths aren't all the same: that of end
	// isn't 0, and 257 and more codes of one length are never whole.
	h.own, _ = huff.Lengths(counts, mostOwnLength)
	h.n = ownSymbols
	for h.n > leastOwn && h.own[order[h.n-1]] == 0 {
		h.n--
	}
	return h
}

// runsOf tells lengths by symbols, each for as many of them as it may.
func runsOf(lengths []int) []word {
	var runs []word
	for len(lengths) > 0 {
		n := lengths[0]
		times := same(lengths)
		lengths = lengths[times:]
		if n != 0 {
			runs = append(runs, word{symbol: n})
			runs = several(runs, n, times-1)
		} else {
			runs = severalNoughts(runs, times)
		}
	}
	return runs
}

// same is how many lengths are as the first one.
func same(lengths []int) int {
	for i, n := range lengths {
		if n != lengths[0] {
			return i
		}
	}
	return len(lengths)
}

// several tells a length that stands ahead so many times more.
func several(runs []word, length int, times int) []word {
	for times >= 3 {
		n := min(times, 6)
		runs = append(runs, word{repeat, n - 3, 2})
		times -= n
	}
	return oneByOne(runs, length, times)
}

func severalNoughts(runs []word, times int) []word {
	for times >= 11 {
		n := min(times, 138)
		runs = append(runs, word{noughts, n - 11, 7})
		times -= n
	}
	if times >= 3 {
		return append(runs, word{fewNoughts, times - 3, 3})
	}
	return oneByOne(runs, 0, times)
}

func oneByOne(runs []word, length int, times int) []word {
	for range times {
		runs = append(runs, word{symbol: length})
	}
	return runs
}

// bits is how many bits the head takes.
func (h head) bits() int {
	sum := literalsBits + distancesBits + ownBits + lengthBits*h.n
	for _, w := range h.runs {
		sum += h.own[w.symbol] + w.extra
	}
	return sum
}

func (s stream) head(h head) {
	s.Put(h.literals-leastLiterals, literalsBits)
	s.Put(h.distances-leastDistances, distancesBits)
	s.Put(h.n-leastOwn, ownBits)
	for i := range h.n {
		s.Put(h.own[order[i]], lengthBits)
	}
	own := coderOf(h.own)
	for _, w := range h.runs {
		s.word(own, w)
	}
}
