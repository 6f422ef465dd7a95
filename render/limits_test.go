package render_test

import (
	"slices"
	"testing"

	"scumble/affine"
	"scumble/api"
	"scumble/lasso"
	"scumble/render"
	"scumble/tree"
)

// Documents as great as can be, with a raster that ends at its last place.
func TestGreatDocuments(t *testing.T) {
	for _, side := range [][2]int{{2048, 2048}, {32768, 128}, {128, 32768}} {
		w, h := side[0], side[1]
		d := did(t, newDoc(t, w, h), tree.Edit{Kind: 1, W: w, H: h},
			tree.Edit{Kind: 4, ID: 1, X: w - 1, Y: h - 1, W: 1, H: 1, P: []int{red}},
			tree.Edit{Kind: 7, ID: 1, Shape: []lasso.Point{{X: 0, Y: 0}, {X: w, Y: 0}, {X: w, Y: h}, {X: 0, Y: h}}})
		whole := render.Whole(d)
		same(t, "pixels", len(whole.P), w*h)
		same(t, "the only pixel", slices.Index(whole.P, red), w*h-1)
		region, e := render.Region(d, w-2, h-2, 2, 2)
		same(t, "Region", e, api.OK)
		same(t, "the last ones", hex(region), hex([]int{0, 0, 0, red}))
		isOutside(t, d, 1, 0, w, h)
		isOutside(t, d, 0, 1, w, h)
	}
}

// Groups within one another as deep as can be, each of which takes a part.
func TestDeepDocuments(t *testing.T) {
	d := newDoc(t, 1, 1)
	for depth := range api.MaxDepth - 1 {
		d = did(t, d, tree.Edit{Kind: 1, N: 1, To: depth}, tree.Edit{Kind: 5, ID: depth + 1, N: 254})
	}
	d = did(t, d, add(api.MaxDepth, api.MaxDepth-1, 1, 1, white)...)
	same(t, "Depth", d.Depth(), api.MaxDepth)
	n := 255
	for range api.MaxDepth - 1 {
		n = times(n, 254)
	}
	looks(t, "63 groups", d, n<<24|n<<16|n<<8|n)
	looks(t, "a hidden group amid them", did(t, d, tree.Edit{Kind: 6, ID: 40, N: 1}), 0)
}

// As many layers as can be, each of which makes the pixel a little brighter. They are
// laid in the document by hand, for adding them one by one takes long.
func TestManyLayers(t *testing.T) {
	d := newDoc(t, 1, 1)
	for d.Next <= api.MaxNodes {
		d.Kids = append(d.Kids, tree.Layer{ID: d.Next, Opacity: 255, Mode: 2, W: 1, H: 1, P: []int{0x010000ff}, Map: affine.One(), Table: 2})
		d.Next++
	}
	same(t, "Right", d.Right(), true)
	n := 0
	for range api.MaxNodes {
		n += 1 - times(n, 1)
	}
	looks(t, "4096 rasters", d, n<<24|255)
	for i := range d.Kids {
		d.Kids[i].Hidden = i != 77
	}
	looks(t, "one of them", d, 0x010000ff)
}

// Each colour of each alpha.
func TestBareAndWhite(t *testing.T) {
	p := affine.Picture{W: 256, H: 256}
	var bare, laid []byte
	for a := range 256 {
		for c := range 256 {
			r, g, b := min(c, a), max(a-c, 0), a/2
			p.P = append(p.P, r<<24|g<<16|b<<8|a)
			for _, n := range []int{r, g, b} {
				full := 0
				if a > 0 {
					full = min((255*n+a/2)/a, 255)
				}
				bare = append(bare, byte(full))
				laid = append(laid, byte(n+255-a))
			}
			bare = append(bare, byte(a))
		}
	}
	same(t, "Bare", slices.Equal(render.Bare(p), bare), true)
	same(t, "White", slices.Equal(render.White(p), laid), true)
}

func TestBareAndWhiteByHand(t *testing.T) {
	p := affine.Picture{W: 2, H: 2, P: []int{0x80402080, 0, 0x010203ff, white}}
	bare := []byte{255, 128, 64, 128, 0, 0, 0, 0, 1, 2, 3, 255, 255, 255, 255, 255}
	if got := render.Bare(p); !slices.Equal(got, bare) {
		t.Error("Bare:", got)
	}
	laid := []byte{255, 191, 159, 255, 255, 255, 1, 2, 3, 255, 255, 255}
	if got := render.White(p); !slices.Equal(got, laid) {
		t.Error("White:", got)
	}
	for _, none := range []affine.Picture{{}, {P: []int{}}, {W: 3}, {H: 3}} {
		same(t, "Bare of nothing", len(render.Bare(none)), 0)
		same(t, "White of nothing", len(render.White(none)), 0)
	}
}
