package tree

import "slices"

// copied is the same document in memory of its own.
func (d Doc) copied() Doc {
	d.Kids = copies(d.Kids)
	return d
}

func (l Layer) copied() Layer {
	l.P = slices.Clone(l.P)
	l.Mask = slices.Clone(l.Mask)
	l.Params = slices.Clone(l.Params)
	l.Kids = copies(l.Kids)
	return l
}

func copies(layers []Layer) []Layer {
	layers = slices.Clone(layers)
	for i, l := range layers {
		layers[i] = l.copied()
	}
	return layers
}

// Same tells whether documents are alike.
func (d Doc) Same(o Doc) bool {
	return d.W == o.W && d.H == o.H && d.Next == o.Next && slices.EqualFunc(d.Kids, o.Kids, Layer.same)
}

func (l Layer) same(o Layer) bool {
	return l.ID == o.ID && l.Kind == o.Kind && l.Hidden == o.Hidden && l.Opacity == o.Opacity && l.Mode == o.Mode &&
		l.sameSight(o) && slices.Equal(l.Mask, o.Mask) &&
		l.Table == o.Table && slices.Equal(l.Params, o.Params) &&
		slices.EqualFunc(l.Kids, o.Kids, Layer.same)
}

// sameSight tells whether layers have the same picture, seen in the same way.
func (l Layer) sameSight(o Layer) bool {
	return l.W == o.W && l.H == o.H && l.Map == o.Map && l.Smooth == o.Smooth && slices.Equal(l.P, o.P)
}
