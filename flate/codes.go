package flate

// The kinds of blocks: bytes as they are; symbols with the fixed codes; symbols
// with codes whose lengths the block tells.
const (
	plain = iota
	fixed
	told
)

// mostPlain is how many bytes a plain block has at most.
const mostPlain = 1<<16 - 1

// The symbols of literals: below end a byte; behind end a copy's length.
const (
	end        = 256
	lastLength = 285
	// With the two that have a fixed code and no meaning.
	literalSymbols = 288
)

// The symbols of distances.
const (
	lastDistance = 29
	// With the two that have a fixed code and no meaning.
	distanceSymbols = 32
)

// The least length and the least distance of a copy, and its greatest length,
// which has a symbol of its own.
const (
	leastLength   = 3
	leastDistance = 1
	longest       = 258
)

// How many symbols of lengths and of distances have as many extra bits each.
const (
	lengthGroup   = 4
	distanceGroup = 2
)

// The symbols of told lengths that stand for several lengths.
const (
	repeat     = 16
	fewNoughts = 17
	noughts    = 18
	ownSymbols = 19
)

// The bits that a block of told codes begins with, and the least that the three
// numbers in them stand for.
const (
	literalsBits   = 5
	distancesBits  = 5
	ownBits        = 4
	leastLiterals  = 257
	leastDistances = 1
	leastOwn       = 4
)

// lengthBits is how many bits a length of the code of lengths is told with.
const lengthBits = 3

// order is the order in which the lengths of the code of lengths are told.
var order = [ownSymbols]int{16, 17, 18, 0, 8, 7, 9, 6, 10, 5, 11, 4, 12, 3, 13, 2, 14, 1, 15}

// blockLengths are those of a block's two codes.
type blockLengths struct {
	literals, distances []int
}

// fixedLengths are the lengths of the fixed codes.
func fixedLengths() blockLengths {
	l := blockLengths{make([]int, literalSymbols), make([]int, distanceSymbols)}
	for s := range l.literals {
		switch {
		case s <= 143:
			l.literals[s] = 8
		case s <= 255:
			l.literals[s] = 9
		case s <= 279:
			l.literals[s] = 7
		default:
			l.literals[s] = 8
		}
	}
	for s := range l.distances {
		l.distances[s] = 5
	}
	return l
}

// word is a symbol, and what its extra bits hold, and how many these are.
type word struct {
	symbol, more, extra int
}

// wordOf tells a number from 0 on by a symbol in groups of this size: the
// symbols of the first two groups have no extra bits, those of each group
// behind it one more.
func wordOf(v int, group int) word {
	extra := 0
	for v>>extra >= 2*group {
		extra++
	}
	return word{extra*group + v>>extra, v & (1<<extra - 1), extra}
}

// base is the number that a symbol in groups of this size stands for with its
// extra bits 0, and how many these are.
func base(symbol int, group int) (v int, extra int) {
	if symbol < group {
		return symbol, 0
	}
	extra = symbol/group - 1
	return (group + symbol%group) << extra, extra
}

// lengthWord tells a copy's length.
func lengthWord(n int) word {
	if n == longest {
		return word{symbol: lastLength}
	}
	w := wordOf(n-leastLength, lengthGroup)
	w.symbol += end + 1
	return w
}

// lengthBase is the least length that a symbol tells, and its extra bits.
func lengthBase(symbol int) (n int, extra int) {
	if symbol == lastLength {
		return longest, 0
	}
	n, extra = base(symbol-end-1, lengthGroup)
	return leastLength + n, extra
}

// distanceWord tells a copy's distance.
func distanceWord(n int) word { return wordOf(n-leastDistance, distanceGroup) }

// distanceBase is the least distance that a symbol tells, and its extra bits.
func distanceBase(symbol int) (n int, extra int) {
	n, extra = base(symbol, distanceGroup)
	return leastDistance + n, extra
}
