package tree

import (
	"slices"

	"scumble/affine"
	"scumble/api"
	"scumble/lasso"
)

// The kinds of edits by their numbers.
const (
	adding = 1 + iota
	deleting
	moving
	painting
	looking
	hiding
	masking
	placing
	adjusting
)

// The masks that an edit makes of a shape, by its number N.
const (
	inShape = iota
	outOfShape
	noMask
)

// deed is what an edit does to a document, which nobody else has any part of. It does
// nothing where it answers an error.
type deed func(d *Doc, e Edit) api.Errno

// allDeeds are those of all edits, by their kinds.
func allDeeds() []deed {
	return []deed{
		adding:    (*Doc).add,
		deleting:  (*Doc).remove,
		moving:    (*Doc).move,
		painting:  (*Doc).paint,
		looking:   (*Doc).look,
		hiding:    (*Doc).hide,
		masking:   (*Doc).mask,
		placing:   (*Doc).place,
		adjusting: (*Doc).adjust,
	}
}

func (d *Doc) add(e Edit) api.Errno {
	if !isUpTo(e.N, adjustment) {
		return api.ErrKind
	}
	if e.N == raster && !isArea(e.W, e.H) {
		return api.ErrLimit
	}
	to, fault := d.group(e.To)
	if fault != api.OK {
		return fault
	}
	if e.At < last || e.At > len(*to.kids) {
		return api.ErrPlace
	}
	if d.Count() >= api.MaxNodes || to.depth >= api.MaxDepth {
		return api.ErrLimit
	}
	to.put(e.At, d.fresh(e))
	d.Next++
	return api.OK
}

// fresh is the layer that an edit adds.
func (d *Doc) fresh(e Edit) Layer {
	l := Layer{ID: d.Next, Kind: e.N, Opacity: opaque, Map: affine.One(), Table: inversion}
	if e.N == raster {
		l.W, l.H, l.P = e.W, e.H, make([]int, e.W*e.H)
	}
	return l
}

func (d *Doc) remove(e Edit) api.Errno {
	s, ok := d.root().find(e.ID)
	if !ok {
		return api.ErrId
	}
	s.take()
	return api.OK
}

func (d *Doc) move(e Edit) api.Errno {
	from, ok := d.root().find(e.ID)
	if !ok {
		return api.ErrId
	}
	to, fault := d.group(e.To)
	if fault != api.OK {
		return fault
	}
	if from.has(e.To) {
		return api.ErrCycle
	}
	room := len(*to.kids)
	if to.kids == from.kids {
		room--
	}
	if e.At < last || e.At > room {
		return api.ErrPlace
	}
	if to.depth+from.height() > api.MaxDepth {
		return api.ErrLimit
	}
	l := from.take()
	// The group may stand elsewhere now, as all behind the layer moved up.
	to, _ = d.group(e.To)
	to.put(e.At, l)
	return api.OK
}

func (d *Doc) paint(e Edit) api.Errno {
	l, fault := d.ofKind(e.ID, raster)
	if fault != api.OK {
		return fault
	}
	if !isSide(e.W) || !isSide(e.H) || len(e.P) != e.W*e.H || !arePixels(e.P) {
		return api.ErrForm
	}
	if !isShift(e.X) || !isShift(e.Y) {
		return api.ErrLimit
	}
	for row := range e.H {
		l.paintRow(e.X, e.Y+row, e.P[row*e.W:(row+1)*e.W])
	}
	return api.OK
}

// paintRow gives the pixels from a place on to the right other numbers, as far as they
// lie in the raster.
func (l *Layer) paintRow(x int, y int, row []int) {
	for i, p := range row {
		at := y*l.W + x + i
		// Ahead of the first row and behind the last one at is none of a pixel.
		if x+i >= 0 && x+i < l.W && at >= 0 && at < len(l.P) {
			l.P[at] = p
		}
	}
}

func (d *Doc) look(e Edit) api.Errno {
	l, fault := d.layer(e.ID)
	if fault != api.OK {
		return fault
	}
	if !isUpTo(e.N, opaque) || !isUpTo(e.M, lastMode) {
		return api.ErrValue
	}
	if l.Kind == adjustment && e.M != 0 {
		return api.ErrKind
	}
	l.Opacity, l.Mode = e.N, e.M
	return api.OK
}

func (d *Doc) hide(e Edit) api.Errno {
	l, fault := d.layer(e.ID)
	if fault != api.OK {
		return fault
	}
	if !isUpTo(e.N, 1) {
		return api.ErrValue
	}
	l.Hidden = e.N == 1
	return api.OK
}

func (d *Doc) mask(e Edit) api.Errno {
	l, fault := d.layer(e.ID)
	if fault != api.OK {
		return fault
	}
	if !isUpTo(e.N, noMask) {
		return api.ErrValue
	}
	if e.N == noMask {
		l.Mask = nil
		return api.OK
	}
	mask, fault := lasso.Mask(e.Shape, d.W, d.H)
	if fault != api.OK {
		return fault
	}
	if e.N == outOfShape {
		for i, m := range mask {
			mask[i] = seen - m
		}
	}
	l.Mask = mask
	return api.OK
}

func (d *Doc) place(e Edit) api.Errno {
	l, fault := d.ofKind(e.ID, raster)
	if fault != api.OK {
		return fault
	}
	if !isUpTo(e.N, 1) {
		return api.ErrValue
	}
	if _, fault := e.Map.Back(); fault != api.OK {
		return fault
	}
	l.Map, l.Smooth = e.Map, e.N == 1
	return api.OK
}

func (d *Doc) adjust(e Edit) api.Errno {
	l, fault := d.ofKind(e.ID, adjustment)
	if fault != api.OK {
		return fault
	}
	if !isTable(e.N, e.Params) {
		return api.ErrValue
	}
	l.Table, l.Params = e.N, slices.Clone(e.Params)
	return api.OK
}

// group is a group, or the root, in which layers may stand.
func (d *Doc) group(id int) (home, api.Errno) {
	if id == root {
		return d.root(), api.OK
	}
	s, ok := d.root().find(id)
	if !ok {
		return home{}, api.ErrId
	}
	if s.layer().Kind != group {
		return home{}, api.ErrKind
	}
	return s.within(), api.OK
}

// layer is a layer of any kind, which can be changed where it stands.
func (d *Doc) layer(id int) (*Layer, api.Errno) {
	s, ok := d.root().find(id)
	if !ok {
		return nil, api.ErrId
	}
	return s.layer(), api.OK
}

// ofKind is a layer of a kind that no group is of.
func (d *Doc) ofKind(id int, kind int) (*Layer, api.Errno) {
	if id == root {
		return nil, api.ErrKind
	}
	l, fault := d.layer(id)
	if fault == api.OK && l.Kind != kind {
		return nil, api.ErrKind
	}
	return l, fault
}
