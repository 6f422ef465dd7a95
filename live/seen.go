package live

import (
	"scumble/affine"
	"scumble/tree"
)

// The kinds of edits that are told apart here, by their numbers.
const (
	adding   = 1
	painting = 4
)

// forget takes away the tiles in which an edit may be seen, that makes the next document
// of this one.
func (l *Live) forget(next tree.Doc, e tree.Edit) {
	id := e.ID
	if e.Kind == adding {
		id = l.doc.Next
	}
	_, wasShown := shown(l.doc.Kids, id)
	layer, isShown := shown(next.Kids, id)
	if !wasShown && !isShown {
		return
	}
	if e.Kind == painting && layer.Map == affine.One() {
		l.drop(painted(next, layer, e))
		return
	}
	clear(l.tiles)
}

// drop takes away the tiles that an area meets.
func (l *Live) drop(a area) {
	for at := range a.places() {
		delete(l.tiles, at)
	}
}

// painted is the area that a Paint may change of what a document looks like, if its
// layer is seen where it is.
func painted(d tree.Doc, l tree.Layer, e tree.Edit) area {
	return areaOf(e.X, e.Y, e.W, e.H).common(areaOf(0, 0, l.W, l.H)).common(areaOf(0, 0, d.W, d.H))
}

// shown is the layer of a number among these and those within them, and true; false, if
// there is none, or it is hidden, or within one that is. (It shares memory with them.)
func shown(layers []tree.Layer, id int) (tree.Layer, bool) {
	for _, l := range layers {
		if l.Hidden {
			continue
		}
		if l.ID == id {
			return l, true
		}
		if found, ok := shown(l.Kids, id); ok {
			return found, true
		}
	}
	return tree.Layer{}, false
}
