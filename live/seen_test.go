package live_test

import (
	"slices"
	"testing"

	"scumble/affine"
	"scumble/tree"
)

// shifted moves a raster to the right by a pixel.
func shifted() affine.Map { return affine.Map{one, 0, 0, one, one, 0} }

// rich is a document of nine tiles: the raster 1; in the group 2 the raster 3, the
// adjustment 4 and the group 5 with the raster 6; the adjustment 7; the group 8.
func rich(t *testing.T, edits ...tree.Edit) tree.Doc {
	t.Helper()
	first := []tree.Edit{
		{Kind: 1, W: 40, H: 40, At: -1}, paint(1, 0, 0, 40, 40, red),
		{Kind: 1, N: 1, At: -1}, {Kind: 1, To: 2, W: 40, H: 40, At: -1}, paint(3, 0, 0, 40, 40, faint), {Kind: 1, N: 2, To: 2, At: -1},
		{Kind: 1, N: 1, To: 2, At: -1}, {Kind: 1, To: 5, W: 40, H: 40, At: -1}, paint(6, 9, 9, 9, 9, blue),
		{Kind: 1, N: 2, At: -1}, {Kind: 1, N: 1, At: -1},
	}
	return newDoc(t, 40, 40, slices.Concat(first, edits)...)
}

func hide(id int) tree.Edit { return tree.Edit{Kind: 6, ID: id, N: 1} }
func show(id int) tree.Edit { return tree.Edit{Kind: 6, ID: id} }

// lays tells where it isn't so many tiles that are laid behind an edit of a document of
// which all was read.
func lays(t *testing.T, d tree.Doc, e tree.Edit, tiles int) {
	t.Helper()
	p := newPair(d)
	same(t, "reading all", p.whole(t), 9)
	p.do(t, e)
	p.alike(t)
	if n := p.whole(t); n != tiles {
		t.Errorf("%+v of %d layers: %d tiles, not %d", e, d.Count(), n, tiles)
	}
	same(t, "again", p.whole(t), 0)
}

// ofLayers are edits of all kinds that have the layers of rich at hand: of the raster 6,
// the raster 3, the adjustment 4 and the group 5.
func ofLayers() []tree.Edit {
	return []tree.Edit{
		{Kind: 5, ID: 3, N: 99}, {Kind: 5, ID: 4, N: 99}, {Kind: 5, ID: 5, N: 99, M: 4}, {Kind: 5, ID: 6, N: 255},
		{Kind: 7, ID: 3, Shape: block(0, 0, 1, 1)}, {Kind: 7, ID: 4, N: 1, Shape: block(0, 0, 1, 1)}, {Kind: 7, ID: 5, N: 2},
		{Kind: 8, ID: 3, Map: shifted()}, {Kind: 8, ID: 6, N: 1, Map: affine.One()},
		{Kind: 9, ID: 4, N: 3, Params: []int{9}},
		{Kind: 3, ID: 3, To: 2, At: 1}, {Kind: 3, ID: 6, To: 2}, {Kind: 3, ID: 5, To: 2}, {Kind: 3, ID: 3, To: 5},
		{Kind: 2, ID: 3}, {Kind: 2, ID: 4}, {Kind: 2, ID: 5}, {Kind: 2, ID: 6},
		{Kind: 1, To: 2, W: 1, H: 1}, {Kind: 1, N: 1, To: 5}, {Kind: 1, N: 2, To: 5},
		{Kind: 6, ID: 3, N: 1}, {Kind: 6, ID: 3}, {Kind: 6, ID: 5, N: 1}, {Kind: 6, ID: 6}, {Kind: 6, ID: 4, N: 1},
	}
}

// Of layers that are shown each edit may be seen anywhere.
func TestEditsThatMayBeSeen(t *testing.T) {
	for _, e := range ofLayers() {
		lays(t, rich(t), e, 9)
	}
	lays(t, rich(t), tree.Edit{Kind: 1, W: 1, H: 1}, 9)
	lays(t, rich(t), tree.Edit{Kind: 2, ID: 2}, 9)
	lays(t, rich(t), tree.Edit{Kind: 3, ID: 8}, 9)
}

// Within a hidden group, be it the nearest one or not, none may be.
func TestEditsWithinHiddenGroups(t *testing.T) {
	for _, e := range ofLayers() {
		lays(t, rich(t, hide(2)), e, 0)
		lays(t, rich(t, hide(2), hide(1), hide(7)), e, 0)
		lays(t, rich(t, hide(2), hide(5)), e, 0)
		lays(t, rich(t, hide(1), hide(7), hide(8)), e, 9)
	}
	for _, id := range []int{3, 6} {
		lays(t, rich(t, hide(2)), paint(id, 0, 0, 40, 40, blue), 0)
		lays(t, rich(t, tree.Edit{Kind: 8, ID: id, Map: shifted()}, hide(2)), paint(id, 0, 0, 40, 40, blue), 0)
	}
	lays(t, rich(t, hide(5)), paint(6, 0, 0, 40, 40, blue), 0)
	lays(t, rich(t, hide(5)), paint(3, 0, 0, 40, 40, blue), 9)
	lays(t, rich(t, hide(5)), tree.Edit{Kind: 5, ID: 3, N: 9}, 9)
	lays(t, rich(t, hide(5)), tree.Edit{Kind: 5, ID: 6, N: 9}, 0)
}

// Of a layer that is hidden itself, none but the one that shows it.
func TestEditsOfHiddenLayers(t *testing.T) {
	for _, id := range []int{1, 3, 6} {
		d := rich(t, hide(id))
		lays(t, d, paint(id, 0, 0, 40, 40, blue), 0)
		lays(t, d, tree.Edit{Kind: 8, ID: id, Map: shifted()}, 0)
	}
	for id := 1; id <= 8; id++ {
		d := rich(t, hide(id))
		lays(t, d, tree.Edit{Kind: 5, ID: id, N: 9}, 0)
		lays(t, d, tree.Edit{Kind: 7, ID: id, Shape: block(1, 1, 3, 3)}, 0)
		lays(t, d, tree.Edit{Kind: 3, ID: id, At: -1}, 0)
		lays(t, d, tree.Edit{Kind: 2, ID: id}, 0)
		lays(t, d, hide(id), 0)
		lays(t, d, show(id), 9)
		lays(t, rich(t), hide(id), 9)
		lays(t, rich(t), show(id), 9)
	}
	lays(t, rich(t, hide(7)), tree.Edit{Kind: 9, ID: 7, N: 3, Params: []int{9}}, 0)
	lays(t, rich(t, hide(8)), tree.Edit{Kind: 1, N: 2, To: 8}, 0)
	// What is shown itself, but within one that is hidden.
	lays(t, rich(t, hide(2), hide(6)), show(6), 0)
	lays(t, rich(t, hide(2), hide(6)), show(2), 9)
}

// It may be seen if it is shown ahead of the edit or behind it.
func TestMoves(t *testing.T) {
	into := func(id int, to int) tree.Edit { return tree.Edit{Kind: 3, ID: id, To: to} }
	lays(t, rich(t, hide(8)), into(1, 8), 9)
	lays(t, rich(t, hide(8)), into(5, 8), 9)
	lays(t, rich(t, hide(2)), into(3, 0), 9)
	lays(t, rich(t, hide(2)), into(6, 8), 9)
	lays(t, rich(t, hide(2), hide(8)), into(6, 8), 0)
	lays(t, rich(t, hide(2), hide(8)), into(5, 8), 0)
	lays(t, rich(t, hide(5), hide(8)), into(6, 8), 0)
	lays(t, rich(t, hide(8)), into(8, 2), 0)
	lays(t, rich(t, hide(6)), into(6, 0), 0)
	lays(t, rich(t, hide(1)), into(1, 2), 0)
	lays(t, rich(t, hide(2), hide(3)), into(3, 0), 0)
	lays(t, rich(t, hide(2), hide(3)), into(2, 8), 0)
}

// What an Add says of ID isn't looked at: it is of the layer that it adds.
func TestAddsOfAnyID(t *testing.T) {
	for id := range 11 {
		lays(t, rich(t, hide(2)), tree.Edit{Kind: 1, ID: id, N: 1}, 9)
		lays(t, rich(t, hide(2)), tree.Edit{Kind: 1, ID: id, N: 1, To: 2}, 0)
	}
}

// A Paint of a raster with another map may be seen anywhere, also where the rectangle
// lies outside of all; one of a raster whose map does nothing only where it is, Smooth or
// not.
func TestPaintsThroughMaps(t *testing.T) {
	for i := range 6 {
		for _, by := range []int{-1, 1, one} {
			m := affine.One()
			m[i] += by
			if _, fault := m.Back(); fault != 0 {
				continue
			}
			for smooth := range 2 {
				lays(t, rich(t, tree.Edit{Kind: 8, ID: 1, N: smooth, Map: m}), paint(1, 3, 3, 1, 1, blue), 9)
				lays(t, rich(t, tree.Edit{Kind: 8, ID: 1, N: smooth, Map: m}), paint(1, -3, -3, 1, 1, blue), 9)
			}
		}
	}
	place := tree.Edit{Kind: 8, ID: 1, N: 1, Map: affine.One()}
	lays(t, rich(t, place), paint(1, 15, 15, 1, 1, blue), 1)
	lays(t, rich(t, place), paint(1, 16, 15, 1, 1, blue), 1)
	lays(t, rich(t, place, tree.Edit{Kind: 8, ID: 3, Map: shifted()}), paint(1, 16, 15, 1, 1, blue), 1)
	lays(t, rich(t, tree.Edit{Kind: 8, ID: 1, Map: shifted()}, place), paint(1, 16, 16, 1, 1, blue), 1)
}

// Whatever is above a raster, and about it, a Paint is seen where it is.
func TestPaintsOfAllDepths(t *testing.T) {
	above := []tree.Edit{
		{Kind: 7, ID: 1, N: 1, Shape: block(15, 0, 3, 40)}, {Kind: 5, ID: 1, N: 77, M: 3}, {Kind: 7, ID: 2, Shape: block(0, 0, 33, 33)},
		{Kind: 5, ID: 5, N: 200, M: 8}, {Kind: 9, ID: 4, N: 3, Params: []int{70}}, {Kind: 5, ID: 7, N: 90},
	}
	for _, id := range []int{1, 3, 6} {
		for _, d := range []tree.Doc{rich(t), rich(t, above...)} {
			lays(t, d, paint(id, 0, 0, 40, 40, 0xffffffff), 9)
			lays(t, d, paint(id, 16, 16, 16, 16, 0xffffffff), 1)
			lays(t, d, paint(id, 15, 16, 16, 16, 0xffffffff), 2)
			lays(t, d, paint(id, 16, 16, 17, 17, 0xffffffff), 4)
			lays(t, d, paint(id, -9, 35, 10, 10, 0xffffffff), 1)
			lays(t, d, paint(id, 40, 0, 9, 9, 0xffffffff), 0)
		}
	}
}
