package png

// The filters.
const (
	asItIs = iota
	byLeft
	byAbove
	byMean
	byNearest
)

// known tells whether there is such a filter.
func known(kind int) bool { return kind >= asItIs && kind <= byNearest }

// Filter is what a line becomes with a filter, below another one.
func Filter(kind int, line []byte, above []byte) []byte {
	if !known(kind) || len(line) != len(above) {
		return nil
	}
	b := make([]byte, len(line))
	for i, x := range line {
		b[i] = x - guess(kind, line, above, i)
	}
	return b
}

// Unfilter is the line that a filter made this one of, below another one.
func Unfilter(kind int, line []byte, above []byte) []byte {
	if !known(kind) || len(line) != len(above) {
		return nil
	}
	b := make([]byte, len(line))
	for i, x := range line {
		b[i] = x + guess(kind, b, above, i)
	}
	return b
}

// guess is what a filter takes the byte at i for, by those ahead of it in its line and those
// above.
func guess(kind int, line []byte, above []byte, i int) byte {
	var left, corner byte
	if i >= pixelSize {
		left, corner = line[i-pixelSize], above[i-pixelSize]
	}
	switch kind {
	case byLeft:
		return left
	case byAbove:
		return above[i]
	case byMean:
		return byte((int(left) + int(above[i])) / 2)
	case byNearest:
		return nearest(left, above[i], corner)
	}
	return 0
}

// nearest is the first of the three that is nearest to a + b - c.
func nearest(a byte, b byte, c byte) byte {
	to := int(a) + int(b) - int(c)
	farA, farB, farC := distance(to, a), distance(to, b), distance(to, c)
	switch {
	case farA <= farB && farA <= farC:
		return a
	case farB <= farC:
		return b
	}
	return c
}

func distance(to int, x byte) int { return max(to-int(x), int(x)-to) }

// filtered are a picture's lines of so many bytes, each behind its filter.
func filtered(rgba []byte, width int) []byte {
	lines := make([]byte, 0, len(rgba)+len(rgba)/width)
	above := make([]byte, width)
	for line := range pieces(rgba, width) {
		kind, b := smallest(line, above)
		lines = append(append(lines, byte(kind)), b...)
		above = line
	}
	return lines
}

// smallest is the filter that leaves a line's bytes nearest to 0, as such lines mostly pack
// best; and these bytes.
func smallest(line []byte, above []byte) (kind int, b []byte) {
	least := size(line)
	b = line
	for other := byLeft; other <= byNearest; other++ {
		try := Filter(other, line, above)
		if n := size(try); n < least {
			kind, b, least = other, try, n
		}
	}
	return kind, b
}

// size is how far bytes are from 0, all together; those from 128 on are nearer from below.
func size(b []byte) int {
	sum := 0
	for _, x := range b {
		sum += min(int(x), 256-int(x))
	}
	return sum
}
