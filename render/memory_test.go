package render_test

import (
	"fmt"
	"slices"
	"testing"

	"scumble/affine"
	"scumble/render"
	"scumble/tree"
)

// rich has a layer of each kind with all that it may have: in the group 1 the raster 2
// and the adjustment 3, beside it the raster 4.
func rich(t *testing.T) tree.Doc {
	t.Helper()
	return did(t, newDoc(t, 3, 2), slices.Concat([]tree.Edit{{Kind: 1, N: 1}}, add(2, 1, 3, 2, 0x20408080),
		[]tree.Edit{{Kind: 1, N: 2, To: 1, At: -1}}, add(4, 0, 3, 2, red), []tree.Edit{
			{Kind: 7, ID: 1, Shape: columns(0, 2, 2)}, {Kind: 7, ID: 2, Shape: columns(1, 3, 2)}, {Kind: 7, ID: 3, Shape: columns(0, 3, 1)},
			{Kind: 9, ID: 3, N: 1, Params: []int{0, 9, 200, 8}}, {Kind: 5, ID: 4, N: 99, M: 3},
			{Kind: 8, ID: 4, N: 1, Map: affine.Map{one, 0, 0, one, one / 2, 0}},
		})...)
}

// A document stays as it is, and what is told of it is alike at each time, whatever was
// done to the answers, and their spare room, in between.
func TestNothingIsShared(t *testing.T) {
	d := rich(t)
	before := fmt.Sprintf("%+v", d)
	should := plainWhole(d)
	for range 3 {
		whole := render.Whole(d)
		region, _ := render.Region(d, 0, 0, d.W, d.H)
		same(t, "Whole", hex(whole.P), hex(should))
		same(t, "Region", hex(region), hex(should))
		clear(whole.P[:cap(whole.P)])
		same(t, "Region when Whole is written", hex(region), hex(should))
		clear(region[:cap(region)])
		same(t, "the document", fmt.Sprintf("%+v", d), before)
	}
}

// What is handed in to Bare and White stays, and so do their other answers.
func TestPicturesStay(t *testing.T) {
	room := []int{red, 0x80402080, 77, 78}
	p := affine.Picture{W: 2, H: 1, P: room[:2]}
	for range 3 {
		bare, white := render.Bare(p), render.White(p)
		same(t, "Bare", fmt.Sprintf("%x", bare), "ff0000ffff804080")
		clear(bare[:cap(bare)])
		same(t, "White", fmt.Sprintf("%x", white), "ff0000ffbf9f")
		clear(white[:cap(white)])
		same(t, "the picture", hex(room), hex([]int{red, 0x80402080, 77, 78}))
	}
}

// An answer stays as it is when its document is changed.
func TestAnswersStay(t *testing.T) {
	d := rich(t)
	whole := render.Whole(d)
	should := hex(whole.P)
	for _, l := range d.Kids {
		clear(l.P)
		clear(l.Mask)
		clear(l.Params)
		clear(l.Kids)
	}
	same(t, "Whole", hex(whole.P), should)
}
