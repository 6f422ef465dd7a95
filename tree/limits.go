package tree

import (
	"slices"

	"scumble/affine"
	"scumble/api"
	"scumble/pix"
)

// The greatest numbers of an opacity, a mode of blending and a pixel.
const (
	opaque    = 255
	lastMode  = 11
	lastPixel = 1<<32 - 1
)

// seen is a mask's byte of a place where all of a layer is seen.
const seen = 255

// inversion is the table of layers that have none of their own.
const inversion = 2

// Right tells whether a document is one that edits could have made.
func (d Doc) Right() bool {
	if !isArea(d.W, d.H) || d.Next < 1 {
		return false
	}
	var numbers []int
	for s := range d.root().spots() {
		// Asked here, not behind all layers, so that this ends soon in a document that
		// has more of them, or one that stands within itself.
		if s.depth >= api.MaxDepth || len(numbers) >= api.MaxNodes || !d.has(s.layer()) {
			return false
		}
		numbers = append(numbers, s.layer().ID)
	}
	return areDifferent(numbers)
}

func areDifferent(numbers []int) bool {
	slices.Sort(numbers)
	return len(slices.Compact(numbers)) == len(numbers)
}

// has tells whether a layer may stand in the document.
func (d Doc) has(l *Layer) bool {
	return l.ID >= 1 && l.ID < d.Next && isUpTo(l.Opacity, opaque) && isUpTo(l.Mode, lastMode) &&
		d.isMask(l.Mask) && l.isOfItsKind()
}

func (d Doc) isMask(mask []byte) bool {
	if len(mask) != 0 && len(mask) != d.W*d.H {
		return false
	}
	for _, m := range mask {
		if m != 0 && m != seen {
			return false
		}
	}
	return true
}

// isOfItsKind tells whether a layer has what its kind asks for, and no more.
func (l *Layer) isOfItsKind() bool {
	switch l.Kind {
	case raster:
		return l.hasPicture() && l.hasNoTable() && len(l.Kids) == 0
	case group:
		return l.hasNoPicture() && l.hasNoTable()
	case adjustment:
		return l.hasNoPicture() && isTable(l.Table, l.Params) && len(l.Kids) == 0 && l.Mode == 0
	}
	return false
}

func (l *Layer) hasPicture() bool {
	_, fault := l.Map.Back()
	return fault == api.OK && isArea(l.W, l.H) && len(l.P) == l.W*l.H && arePixels(l.P)
}

func (l *Layer) hasNoPicture() bool {
	return l.W == 0 && l.H == 0 && len(l.P) == 0 && l.Map == affine.One() && !l.Smooth
}

func (l *Layer) hasNoTable() bool { return l.Table == inversion && len(l.Params) == 0 }

func isTable(kind int, params []int) bool {
	_, ok := pix.Table(kind, params)
	return ok
}

// arePixels tells whether all of these are pixels with no colour above their alpha.
func arePixels(numbers []int) bool {
	for _, n := range numbers {
		if !isUpTo(n, lastPixel) {
			return false
		}
		if p := pix.Split(n); max(p[0], p[1], p[2]) > p[3] {
			return false
		}
	}
	return true
}

func isArea(w int, h int) bool { return isSide(w) && isSide(h) && w*h <= api.MaxArea }

func isSide(n int) bool { return n >= 1 && n <= api.MaxSide }

func isShift(n int) bool { return n >= -api.MaxSide && n <= api.MaxSide }

func isUpTo(n int, most int) bool { return n >= 0 && n <= most }
