package tree

import (
	"iter"
	"slices"
)

// last is the place behind all others.
const last = -1

// home is a group, or the root, with what stands in it.
type home struct {
	id    int
	kids  *[]Layer
	depth int // the group's own; that of the root is 0
}

// spot is where a layer stands in its home.
type spot struct {
	home
	at int
}

func (d *Doc) root() home { return home{root, &d.Kids, 0} }

func (s spot) layer() *Layer { return &(*s.kids)[s.at] }

// within is the layer itself as a home.
func (s spot) within() home {
	l := s.layer()
	return home{l.ID, &l.Kids, s.depth + 1}
}

// spots are those of all layers within, each ahead of the ones within it.
func (h home) spots() iter.Seq[spot] {
	return func(yield func(spot) bool) { h.tell(yield) }
}

// tell hands over all spots until one is enough; then it is false.
func (h home) tell(yield func(spot) bool) bool {
	for at := range *h.kids {
		s := spot{h, at}
		if !yield(s) || !s.within().tell(yield) {
			return false
		}
	}
	return true
}

func (h home) find(id int) (spot, bool) {
	for s := range h.spots() {
		if s.layer().ID == id {
			return s, true
		}
	}
	return spot{}, false
}

func (h home) count() int {
	n := 0
	for range h.spots() {
		n++
	}
	return n
}

// deepest is how deep the deepest layer within stands; the home itself, if there is
// none.
func (h home) deepest() int {
	depth := h.depth
	for s := range h.spots() {
		depth = max(depth, s.depth+1)
	}
	return depth
}

// has tells whether a layer is this one or within it.
func (s spot) has(id int) bool {
	_, ok := s.within().find(id)
	return ok || s.layer().ID == id
}

// height is how deep the deepest layer within this one would stand, if this one stood
// in the root.
func (s spot) height() int { return s.within().deepest() - s.depth }

// put lets a layer stand at a place.
func (h home) put(at int, l Layer) {
	if at == last {
		at = len(*h.kids)
	}
	*h.kids = slices.Insert(*h.kids, at, l)
}

// take takes the layer out.
func (s spot) take() Layer {
	l := *s.layer()
	*s.kids = slices.Delete(*s.kids, s.at, s.at+1)
	return l
}
