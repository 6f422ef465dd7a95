package render_test

import (
	"fmt"
	"math"
	"testing"

	"scumble/affine"
	"scumble/api"
	"scumble/lasso"
	"scumble/pix"
	"scumble/tree"
)

// one is 1 in a map's numbers.
const one = 65536

func same[T comparable](t *testing.T, what string, got T, should T) {
	t.Helper()
	if got != should {
		t.Errorf("%s: %v, not %v", what, got, should)
	}
}

// newDoc is a document without layers.
func newDoc(t *testing.T, w int, h int) tree.Doc {
	t.Helper()
	d, e := tree.New(w, h)
	same(t, "New", e, api.OK)
	return d
}

// did is the document behind edits that may be done.
func did(t *testing.T, d tree.Doc, edits ...tree.Edit) tree.Doc {
	t.Helper()
	for _, e := range edits {
		next, fault := d.Do(e)
		if fault != api.OK {
			t.Fatalf("%+v: %d", e, fault)
		}
		d = next
	}
	return d
}

// add is a raster as great as the document that has one pixel everywhere: two edits.
func add(id int, to int, w int, h int, pixel int) []tree.Edit {
	p := make([]int, w*h)
	for i := range p {
		p[i] = pixel
	}
	return []tree.Edit{{Kind: 1, To: to, At: -1, W: w, H: h}, {Kind: 4, ID: id, W: w, H: h, P: p}}
}

// columns is the shape of the document's columns from one on up to another.
func columns(from int, to int, h int) []lasso.Point {
	return []lasso.Point{{X: from, Y: 0}, {X: to, Y: 0}, {X: to, Y: h}, {X: from, Y: h}}
}

// hex is a row of pixels as a text.
func hex(pixels []int) string { return fmt.Sprintf("%08x", pixels) }

// times is a * b: a b / 255 rounded to the nearest.
func times(a int, b int) int { return int(math.Round(float64(a) * float64(b) / 255)) }

// isPixel tells whether no colour is above its alpha.
func isPixel(n int) bool {
	a := n % 256
	return n >= 0 && n>>32 == 0 && n>>24 <= a && n>>16%256 <= a && n>>8%256 <= a
}

// plainPicture is the chapter's words told again: all places of the document, which a
// layer is laid over as a whole before the next one is.
type plainPicture struct {
	w, h   int
	pixels [][4]int
}

func plainWhole(d tree.Doc) []int {
	var numbers []int
	for _, p := range plainKids(d.Kids, d.W, d.H).pixels {
		numbers = append(numbers, pix.Join(p))
	}
	return numbers
}

func plainKids(layers []tree.Layer, w int, h int) plainPicture {
	ground := plainPicture{w, h, make([][4]int, w*h)}
	for _, l := range layers {
		if l.Hidden {
			continue
		}
		switch l.Kind {
		case 0:
			ground.blend(l, plainRaster(l, w, h))
		case 1:
			ground.blend(l, plainKids(l.Kids, w, h))
		case 2:
			ground.adjust(l)
		}
	}
	return ground
}

func plainRaster(l tree.Layer, w int, h int) plainPicture {
	seen, e := affine.See(affine.Picture{W: l.W, H: l.H, P: l.P}, l.Map, w, h, l.Smooth)
	if e != api.OK {
		panic("no picture is seen")
	}
	all := plainPicture{w: w, h: h}
	for _, n := range seen.P {
		all.pixels = append(all.pixels, pix.Split(n))
	}
	return all
}

// plainPart is a layer's part at a place, which is told by its number in the rows.
func plainPart(l tree.Layer, i int) int {
	mask := 255
	if len(l.Mask) > 0 {
		mask = int(l.Mask[i])
	}
	return times(l.Opacity, mask)
}

func (ground plainPicture) blend(l tree.Layer, over plainPicture) {
	for i, s := range over.pixels {
		part := plainPart(l, i)
		faded := [4]int{times(s[0], part), times(s[1], part), times(s[2], part), times(s[3], part)}
		ground.pixels[i] = pix.Blend(l.Mode, faded, ground.pixels[i])
	}
}

func (ground plainPicture) adjust(l tree.Layer) {
	table, ok := pix.Table(l.Table, l.Params)
	if !ok {
		panic("no table")
	}
	for i, p := range ground.pixels {
		q, part := pix.Map(table, p), plainPart(l, i)
		for c := range 3 {
			ground.pixels[i][c] = min(times(q[c], part)+times(p[c], 255-part), p[3])
		}
	}
}
