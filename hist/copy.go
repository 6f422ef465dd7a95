package hist

import (
	"slices"

	"scumble/tree"
)

// copies are the same documents in memory of their own.
func copies(docs []tree.Doc) []tree.Doc {
	docs = slices.Clone(docs)
	for i, d := range docs {
		docs[i] = copied(d)
	}
	return docs
}

func copied(d tree.Doc) tree.Doc {
	d.Kids = copiedLayers(d.Kids)
	return d
}

func copiedLayers(layers []tree.Layer) []tree.Layer {
	layers = slices.Clone(layers)
	for i := range layers {
		l := &layers[i]
		l.P, l.Mask, l.Params = slices.Clone(l.P), slices.Clone(l.Mask), slices.Clone(l.Params)
		l.Kids = copiedLayers(l.Kids)
	}
	return layers
}
