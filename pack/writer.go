package pack

import (
	"scumble/hist"
	"scumble/lasso"
	"scumble/tree"
)

// A number's groups, the lowest first: how many bits each has, and the bit of a byte that
// another one stands behind.
const (
	groupBits = 7
	more      = 1 << groupBits
)

// writer writes things one behind the other.
type writer struct{ b []byte }

func (w *writer) numbers(numbers ...int) {
	for _, n := range numbers {
		w.number(n)
	}
}

func (w *writer) number(n int) {
	// The sign goes to the lowest bit, so that small numbers below 0 are short, too.
	rest := uint64(n)<<1 ^ uint64(n>>63)
	for rest >= more {
		w.b = append(w.b, byte(rest)|more)
		rest >>= groupBits
	}
	w.b = append(w.b, byte(rest))
}

func (w *writer) flag(is bool) {
	if is {
		w.number(1)
	} else {
		w.number(0)
	}
}

// row writes a list of numbers.
func (w *writer) row(numbers []int) {
	w.number(len(numbers))
	w.numbers(numbers...)
}

// bytes writes a list of bytes as they are.
func (w *writer) bytes(b []byte) {
	w.number(len(b))
	w.b = append(w.b, b...)
}

// putList writes a list of things, each by put, which writes to w.
func putList[T any](w *writer, things []T, put func(T)) {
	w.number(len(things))
	for _, thing := range things {
		put(thing)
	}
}

func (w *writer) point(p lasso.Point) { w.numbers(p.X, p.Y) }

func (w *writer) edit(e tree.Edit) {
	w.numbers(e.Kind, e.ID, e.To, e.At, e.N, e.M, e.X, e.Y, e.W, e.H)
	w.row(e.P)
	putList(w, e.Shape, w.point)
	w.numbers(e.Map[:]...)
	w.row(e.Params)
}

func (w *writer) layer(l tree.Layer) {
	w.numbers(l.ID, l.Kind)
	w.flag(l.Hidden)
	w.numbers(l.Opacity, l.Mode, l.W, l.H)
	w.row(l.P)
	w.bytes(l.Mask)
	w.numbers(l.Map[:]...)
	w.flag(l.Smooth)
	w.numbers(l.Table)
	w.row(l.Params)
	putList(w, l.Kids, w.layer)
}

func (w *writer) doc(d tree.Doc) {
	w.numbers(d.W, d.H, d.Next)
	putList(w, d.Kids, w.layer)
}

func (w *writer) state(s hist.State) {
	w.doc(s.Doc)
	putList(w, s.Past, w.doc)
	putList(w, s.Future, w.doc)
}
