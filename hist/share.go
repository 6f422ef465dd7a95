package hist

import (
	"slices"

	"scumble/tree"
)

// share lets a document have those lists of the one next to it that are alike, so that a history
// of many edits takes room for what they changed, and not for all that they left.
func share(d tree.Doc, next tree.Doc) {
	there := map[int]tree.Layer{}
	gather(there, next.Kids)
	shareLayers(d.Kids, there)
}

// gather lays layers, and all within them, by their numbers.
func gather(there map[int]tree.Layer, layers []tree.Layer) {
	for _, l := range layers {
		there[l.ID] = l
		gather(there, l.Kids)
	}
}

func shareLayers(layers []tree.Layer, there map[int]tree.Layer) {
	for i := range layers {
		l := &layers[i]
		other := there[l.ID]
		l.P = either(l.P, other.P)
		l.Mask = either(l.Mask, other.Mask)
		l.Params = either(l.Params, other.Params)
		shareLayers(l.Kids, there)
	}
}

// either is the other list, if it is alike.
func either[T comparable](list []T, other []T) []T {
	if slices.Equal(list, other) {
		return other
	}
	return list
}

// shareAll shares from the document on, either way.
func (h *History) shareAll() {
	for _, side := range [][]tree.Doc{h.past, h.future} {
		next := h.doc
		for _, d := range slices.Backward(side) {
			share(d, next)
			next = d
		}
	}
}
