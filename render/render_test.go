package render_test

import (
	"math"
	"slices"
	"testing"

	"scumble/affine"
	"scumble/api"
	"scumble/pix"
	"scumble/render"
	"scumble/tree"
)

const (
	red   = 0xff0000ff
	green = 0x00ff00ff
	blue  = 0x0000ffff
	white = 0xffffffff
)

// looks tells where a document's picture isn't this one.
func looks(t *testing.T, what string, d tree.Doc, should ...int) {
	t.Helper()
	got := render.Whole(d)
	if got.W != d.W || got.H != d.H || !slices.Equal(got.P, should) {
		t.Errorf("%s: %d times %d, %s, not %s", what, got.W, got.H, hex(got.P), hex(should))
	}
}

func TestExample(t *testing.T) {
	d := did(t, newDoc(t, 2, 2), add(1, 0, 2, 2, red)...)
	d = did(t, d, tree.Edit{Kind: 5, ID: 1, N: 128})
	looks(t, "red", d, 0x80000080, 0x80000080, 0x80000080, 0x80000080)
	for i, n := range render.White(render.Whole(d)) {
		same(t, "White", n, []byte{0xff, 0x7f, 0x7f}[i%3])
	}
}

// The document's examples 6 to 8 of the whole.
func TestExamplesOfTheWhole(t *testing.T) {
	d := did(t, newDoc(t, 4, 4), add(1, 0, 4, 4, blue)...)
	half := did(t, d, tree.Edit{Kind: 5, ID: 1, N: 128})
	same(t, "Look", render.Whole(half).P[0], 0x00008080)
	looks(t, "Hide", did(t, half, tree.Edit{Kind: 6, ID: 1, N: 1}), make([]int, 16)...)
	first := did(t, d, tree.Edit{Kind: 7, ID: 1, Shape: columns(0, 1, 4)})
	looks(t, "Mask", first, blue, 0, 0, 0, blue, 0, 0, 0, blue, 0, 0, 0, blue, 0, 0, 0)
	moved := did(t, d, tree.Edit{Kind: 8, ID: 1, Map: affine.Map{one, 0, 0, one, one, 0}})
	looks(t, "Place", moved, 0, blue, blue, blue, 0, blue, blue, blue, 0, blue, blue, blue, 0, blue, blue, blue)
}

func TestNoLayers(t *testing.T) {
	d := newDoc(t, 3, 2)
	looks(t, "no layers", d, 0, 0, 0, 0, 0, 0)
	looks(t, "an empty group", did(t, d, tree.Edit{Kind: 1, N: 1}), 0, 0, 0, 0, 0, 0)
	looks(t, "an adjustment of nothing", did(t, d, tree.Edit{Kind: 1, N: 2}), 0, 0, 0, 0, 0, 0)
	looks(t, "an unpainted raster", did(t, d, tree.Edit{Kind: 1, W: 9, H: 9}), 0, 0, 0, 0, 0, 0)
}

// Kids stand from the lowest to the highest, and are blended by their own modes, also
// the lowest one, over nothing.
func TestModes(t *testing.T) {
	pixels := []int{0, red, white, 0x80000080, 0x10203040, 0x7f40017f, 0x000000ff, 0x8c643296}
	for mode := range 12 {
		for _, over := range pixels {
			for _, under := range pixels {
				d := did(t, newDoc(t, 1, 1), slices.Concat(add(1, 0, 1, 1, under), add(2, 0, 1, 1, over))...)
				d = did(t, d, tree.Edit{Kind: 5, ID: 1, N: 255, M: 11 - mode}, tree.Edit{Kind: 5, ID: 2, N: 200, M: mode})
				ground := pix.Blend(11-mode, pix.Split(under), [4]int{})
				should := pix.Blend(mode, pix.Fade(pix.Split(over), 200), ground)
				looks(t, "two rasters", d, pix.Join(should))
			}
		}
	}
}

// A raster ends where its sides are, and reaches beyond the document's.
func TestRastersOfOtherSizes(t *testing.T) {
	d := did(t, newDoc(t, 3, 2), slices.Concat(add(1, 0, 1, 9, blue), add(2, 0, 9, 1, red))...)
	looks(t, "two rasters", d, red, red, red, blue, 0, 0)
}

func TestMaps(t *testing.T) {
	d := did(t, newDoc(t, 3, 1), tree.Edit{Kind: 1, W: 2, H: 1}, tree.Edit{Kind: 4, ID: 1, W: 2, H: 1, P: []int{red, blue}})
	half := affine.Map{one, 0, 0, one, one / 2, 0}
	looks(t, "as it is", d, red, blue, 0)
	looks(t, "smooth as it is", did(t, d, tree.Edit{Kind: 8, ID: 1, N: 1, Map: affine.One()}), red, blue, 0)
	looks(t, "half a pixel", did(t, d, tree.Edit{Kind: 8, ID: 1, Map: half}), red, blue, 0)
	looks(t, "smooth half a pixel", did(t, d, tree.Edit{Kind: 8, ID: 1, N: 1, Map: half}), 0x80000080, 0x800080ff, 0x00008080)
	looks(t, "turned round", did(t, d, tree.Edit{Kind: 8, ID: 1, Map: affine.Map{-one, 0, 0, one, 3 * one, 0}}), 0, blue, red)
	looks(t, "doubled", did(t, d, tree.Edit{Kind: 8, ID: 1, Map: affine.Map{2 * one, 0, 0, one, 0, 0}}), red, red, blue)
	looks(t, "far away", did(t, d, tree.Edit{Kind: 8, ID: 1, N: 1, Map: affine.Map{one, 0, 0, one, api.MaxShift, -api.MaxShift}}), 0, 0, 0)
	second := did(t, newDoc(t, 1, 2), add(1, 0, 1, 1, red)...)
	looks(t, "down", did(t, second, tree.Edit{Kind: 8, ID: 1, Map: affine.Map{one, 0, 0, one, 0, one}}), 0, red)
}

// A mask is of the document's places, whatever the layer's map is, and its part is
// multiplied with the Opacity.
func TestMasks(t *testing.T) {
	d := did(t, newDoc(t, 3, 2), add(1, 0, 3, 2, red)...)
	in := tree.Edit{Kind: 7, ID: 1, Shape: columns(1, 2, 2)}
	out := tree.Edit{Kind: 7, ID: 1, N: 1, Shape: columns(1, 2, 2)}
	looks(t, "in", did(t, d, in), 0, red, 0, 0, red, 0)
	looks(t, "out", did(t, d, out), red, 0, red, red, 0, red)
	looks(t, "none again", did(t, d, in, tree.Edit{Kind: 7, ID: 1, N: 2}), red, red, red, red, red, red)
	looks(t, "faded", did(t, d, in, tree.Edit{Kind: 5, ID: 1, N: 1}), 0, 0x01000001, 0, 0, 0x01000001, 0)
	shift := tree.Edit{Kind: 8, ID: 1, Map: affine.Map{one, 0, 0, one, one, one}}
	looks(t, "moved", did(t, d, out, shift), 0, 0, 0, 0, 0, red)
	below := did(t, newDoc(t, 2, 3), add(1, 0, 2, 3, red)...)
	in.Shape = columns(0, 2, 1)
	looks(t, "the first row", did(t, below, in), red, red, 0, 0, 0, 0)
}

func TestHidden(t *testing.T) {
	hide := func(id int, n int) tree.Edit { return tree.Edit{Kind: 6, ID: id, N: n} }
	// The raster 1, the group 2 with the raster 3, the adjustment 4.
	d := did(t, newDoc(t, 1, 1), slices.Concat(add(1, 0, 1, 1, green), []tree.Edit{{Kind: 1, N: 1, At: -1}},
		add(3, 2, 1, 1, 0x80000080), []tree.Edit{{Kind: 1, N: 2, At: -1}})...)
	looks(t, "all", d, 0x7f80ffff)
	looks(t, "without 1", did(t, d, hide(1, 1)), 0x00808080)
	looks(t, "without 2", did(t, d, hide(2, 1)), 0xff00ffff)
	looks(t, "without 3", did(t, d, hide(3, 1)), 0xff00ffff)
	looks(t, "without 4", did(t, d, hide(4, 1)), 0x807f00ff)
	looks(t, "without 1 and 2", did(t, d, hide(1, 1), hide(2, 1)), 0)
	looks(t, "shown again", did(t, d, hide(2, 1), hide(2, 0)), 0x7f80ffff)
}

// A group is laid as its Kids look by themselves.
func TestGroups(t *testing.T) {
	// The raster 1 below, and in the group 2 the raster 3 that multiplies.
	d := did(t, newDoc(t, 2, 1), slices.Concat(add(1, 0, 2, 1, green), []tree.Edit{{Kind: 1, N: 1, At: -1}},
		add(3, 2, 2, 1, red), []tree.Edit{{Kind: 5, ID: 3, N: 255, M: 1}})...)
	looks(t, "what is in it", d, red, red)
	out := did(t, d, tree.Edit{Kind: 3, ID: 3, To: 0, At: -1})
	looks(t, "what is out of it", out, 0x000000ff, 0x000000ff)
	mode := tree.Edit{Kind: 5, ID: 2, N: 255, M: 2}
	looks(t, "its mode", did(t, d, mode), 0xffff00ff, 0xffff00ff)
	half := tree.Edit{Kind: 5, ID: 2, N: 128}
	looks(t, "its opacity", did(t, d, half), 0x807f00ff, 0x807f00ff)
	mask := tree.Edit{Kind: 7, ID: 2, Shape: columns(1, 2, 1)}
	looks(t, "its mask", did(t, d, mask), green, red)
	looks(t, "all of them", did(t, d, mask, tree.Edit{Kind: 5, ID: 2, N: 128, M: 2}), green, 0x80ff00ff)
	// Two that overlap fade together, not each by itself.
	two := did(t, d, add(4, 2, 2, 1, blue)...)
	looks(t, "two in it", did(t, two, half), 0x007f80ff, 0x007f80ff)
}

func TestAdjustments(t *testing.T) {
	// The raster 1, the adjustment 2 that inverts, the raster 3 above it.
	d := did(t, newDoc(t, 2, 1), slices.Concat(add(1, 0, 2, 1, 0x40201080), []tree.Edit{{Kind: 1, N: 2, At: -1}},
		add(3, 0, 1, 1, blue))...)
	looks(t, "what is below", d, blue, 0x40607080)
	same(t, "as layer 8", 0x40607080, pix.Join([4]int(pix.Map(inverse(), pix.Split(0x40201080)))))
	looks(t, "its part", did(t, d, tree.Edit{Kind: 5, ID: 2, N: 51}), blue, 0x402d2380)
	looks(t, "none of it", did(t, d, tree.Edit{Kind: 5, ID: 2}), blue, 0x40201080)
	mask := tree.Edit{Kind: 7, ID: 2, Shape: columns(0, 1, 1)}
	looks(t, "its mask", did(t, d, mask, tree.Edit{Kind: 6, ID: 3, N: 1}), 0x40607080, 0x40201080)
	looks(t, "a threshold", did(t, d, tree.Edit{Kind: 9, ID: 2, N: 3, Params: []int{64}}), blue, 0x80800080)
	looks(t, "levels", did(t, d, tree.Edit{Kind: 9, ID: 2, Params: []int{64, 128}}), blue, 0x80000080)
	looks(t, "a curve", did(t, d, tree.Edit{Kind: 9, ID: 2, N: 1, Params: []int{9, 255}}), blue, 0x80808080)
	looks(t, "twice", did(t, d, tree.Edit{Kind: 1, N: 2, At: -1}), 0xffff00ff, 0x40201080)
	looks(t, "below all", did(t, d, tree.Edit{Kind: 3, ID: 2}), blue, 0x40201080)
	// In a group it takes only what is in the group.
	in := did(t, d, tree.Edit{Kind: 1, N: 1, At: -1}, tree.Edit{Kind: 3, ID: 3, To: 4}, tree.Edit{Kind: 3, ID: 2, To: 4, At: -1})
	looks(t, "in a group", in, 0xffff00ff, 0x40201080)
}

func inverse() []int {
	table, _ := pix.Table(2, nil)
	return table
}

// All rectangles of a document, which are cut from its picture.
func TestRegions(t *testing.T) {
	d := small(t)
	whole := render.Whole(d)
	for x := -1; x <= d.W+1; x++ {
		for y := -1; y <= d.H+1; y++ {
			for w := -1; w <= d.W+1; w++ {
				for h := -1; h <= d.H+1; h++ {
					if min(x, y, w, h) < 0 || x+w > d.W || y+h > d.H {
						isOutside(t, d, x, y, w, h)
						continue
					}
					got, e := render.Region(d, x, y, w, h)
					if e != api.OK || !slices.Equal(got, cut(whole, x, y, w, h)) {
						t.Errorf("Region(%d, %d, %d, %d): %s, %d", x, y, w, h, hex(got), e)
					}
				}
			}
		}
	}
}

func isOutside(t *testing.T, d tree.Doc, x int, y int, w int, h int) {
	t.Helper()
	got, e := render.Region(d, x, y, w, h)
	if e != api.ErrRange || len(got) != 0 {
		t.Errorf("Region(%d, %d, %d, %d): %s, %d", x, y, w, h, hex(got), e)
	}
}

// small is a document in which no two pixels are alike.
func small(t *testing.T) tree.Doc {
	t.Helper()
	d := newDoc(t, 4, 3)
	e := tree.Edit{Kind: 4, ID: 1, W: 4, H: 3}
	for i := range 12 {
		e.P = append(e.P, i<<24|255)
	}
	return did(t, d, tree.Edit{Kind: 1, W: 4, H: 3}, e)
}

// Sums of these have no room in an int, or none where numbers are cut to 32 bits.
func TestRegionOfFarPlaces(t *testing.T) {
	d := small(t)
	for _, n := range []int{math.MinInt, math.MinInt + 1, -1 << 32, -1<<32 + 1, -1, 5, 1 << 31, 1 << 32, 1<<32 + 1, 1 << 62, math.MaxInt - 1, math.MaxInt} {
		for _, m := range []int{0, 1, 2, math.MaxInt, math.MinInt, n, -n} {
			isOutside(t, d, n, 0, m, 1)
			isOutside(t, d, m, 0, n, 1)
			isOutside(t, d, 0, n, 1, m)
			isOutside(t, d, 0, m, 1, n)
			isOutside(t, d, n, m, 0, 0)
			isOutside(t, d, m, m, n, n)
		}
	}
}
