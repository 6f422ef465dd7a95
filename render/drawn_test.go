package render_test

import (
	"slices"
	"testing"

	"scumble/affine"
	"scumble/api"
	"scumble/lasso"
	"scumble/render"
	"scumble/tree"
)

// draw is a row of numbers that looks without a rule, alike at each run.
type draw struct{ state uint64 }

func (d *draw) next(n int) int {
	d.state = d.state*6364136223846793005 + 1442695040888963407
	return int(d.state>>20) % n
}

// from is a number from one to another.
func (d *draw) from(least int, most int) int { return least + d.next(most-least+1) }

// of is one of these.
func of[T any](d *draw, things ...T) T { return things[d.next(len(things))] }

// pixel is one that is often opaque, or nothing.
func (d *draw) pixel() int {
	a := of(d, 255, 255, 0, d.from(0, 255))
	return d.from(0, a)<<24 | d.from(0, a)<<16 | d.from(0, a)<<8 | a
}

// plane is a map that is often near to the one that does nothing.
func (d *draw) plane() affine.Map {
	m := affine.One()
	for range d.next(5) {
		i := d.next(6)
		m[i] = of(d, 0, one, -one, d.from(-2*one, 2*one))
		if i >= 4 {
			m[i] = of(d, d.from(-4, 4)*one, d.from(-9, 9)*one/2, d.from(-4*one, 4*one))
		}
	}
	return m
}

// edit is an edit of a document of this many layers, which may be refused.
func (d *draw) edit(layers int) tree.Edit {
	e := tree.Edit{
		Kind: of(d, 1, 1, 1, 2, 3, 3, 4, 4, 4, 4, 5, 5, 6, 7, 7, 8, 8, 9, 9), ID: d.from(1, layers+1), To: of(d, 0, d.from(0, layers)),
		At: of(d, -1, -1, 0, 1, 2), N: of(d, 0, 0, 0, 1, 1, 2), X: d.from(-2, 4), Y: d.from(-2, 4), W: d.from(1, 5), H: d.from(1, 5),
		Map: d.plane(),
	}
	switch e.Kind {
	case 4:
		for range e.W * e.H {
			e.P = append(e.P, d.pixel())
		}
	case 5:
		e.N, e.M = of(d, 255, 128, d.from(0, 255)), of(d, 0, d.from(0, 11))
	case 6:
		e.N = of(d, 0, 0, 1)
	case 7:
		for range d.from(3, 5) {
			e.Shape = append(e.Shape, lasso.Point{X: d.from(-2, 8), Y: d.from(-2, 8)})
		}
	case 9:
		lo := d.from(0, 254)
		e.N = d.from(0, 3)
		e.Params = of(d, [][]int{{lo, d.from(lo+1, 255)}, {lo, d.from(0, 255), 255, d.from(0, 255)}, nil, {lo}}[e.N])
	}
	return e
}

// asPlain tells where a document's picture, or a part of it, isn't as the chapter's words
// make it.
func asPlain(t *testing.T, d tree.Doc, drawn *draw) {
	t.Helper()
	should, got := plainWhole(d), render.Whole(d)
	if got.W != d.W || got.H != d.H || !slices.Equal(got.P, should) {
		t.Fatalf("Whole of %+v:\n%d times %d, %s, not\n%s", d, got.W, got.H, hex(got.P), hex(should))
	}
	for _, n := range got.P {
		if !isPixel(n) {
			t.Fatalf("Whole of %+v:\n%x is no pixel", d, n)
		}
	}
	x, y := drawn.from(0, d.W), drawn.from(0, d.H)
	w, h := drawn.from(0, d.W-x), drawn.from(0, d.H-y)
	region, e := render.Region(d, x, y, w, h)
	if e != api.OK || !slices.Equal(region, cut(got, x, y, w, h)) {
		t.Fatalf("Region(%d, %d, %d, %d) of %+v:\n%s, %d", x, y, w, h, d, hex(region), e)
	}
}

// cut is a rectangle of a picture.
func cut(p affine.Picture, x int, y int, w int, h int) []int {
	var pixels []int
	for row := y; row < y+h; row++ {
		pixels = append(pixels, p.P[row*p.W+x:row*p.W+x+w]...)
	}
	return pixels
}

func TestDrawnDocuments(t *testing.T) {
	kinds := map[int]int{}
	for seed := range 400 {
		drawn := &draw{uint64(seed)}
		d := newDoc(t, drawn.from(1, 7), drawn.from(1, 7))
		for range 60 {
			e := drawn.edit(d.Next - 1)
			next, fault := d.Do(e)
			if fault != api.OK {
				continue
			}
			kinds[e.Kind]++
			d = next
			asPlain(t, d, drawn)
		}
	}
	for kind := 1; kind <= 9; kind++ {
		if kinds[kind] < 100 {
			t.Error("too few edits of the kind", kind)
		}
	}
}
