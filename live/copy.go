package live

import (
	"slices"

	"scumble/tree"
)

// copied is the same document in memory of its own.
func copied(d tree.Doc) tree.Doc {
	d.Kids = copies(d.Kids)
	return d
}

func copies(layers []tree.Layer) []tree.Layer {
	layers = slices.Clone(layers)
	for i := range layers {
		l := &layers[i]
		l.P, l.Mask, l.Params = slices.Clone(l.P), slices.Clone(l.Mask), slices.Clone(l.Params)
		l.Kids = copies(l.Kids)
	}
	return layers
}
