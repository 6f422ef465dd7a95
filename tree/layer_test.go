package tree_test

import (
	"math"
	"slices"
	"testing"

	"scumble/affine"
	"scumble/api"
	"scumble/lasso"
	"scumble/tree"
)

// found is a layer of a document.
func found(t *testing.T, d tree.Doc, id int) tree.Layer {
	t.Helper()
	l, ok := d.Find(id)
	same(t, "Find", ok, true)
	return l
}

// changes tells where an edit changes anything but what is set.
func changes(t *testing.T, e tree.Edit, set func(l *tree.Layer)) {
	t.Helper()
	d := did(t, rich(t), e)
	should := rich(t)
	set(layer(&should, e.ID))
	same(t, "behind the edit", told(d), told(should))
	same(t, "Right", d.Right(), true)
}

// rows are the pixels of a raster of 3 times 2 behind a Paint.
func rows(t *testing.T, x int, y int, w int, h int, p ...int) [6]int {
	t.Helper()
	d := did(t, newDoc(t, 1, 1), tree.Edit{Kind: 1, W: 3, H: 2}, tree.Edit{Kind: 4, ID: 1, W: 3, H: 2, P: []int{9, 9, 9, 9, 9, 9}})
	d = did(t, d, tree.Edit{Kind: 4, ID: 1, X: x, Y: y, W: w, H: h, P: p})
	return [6]int(found(t, d, 1).P)
}

func TestPaint(t *testing.T) {
	same(t, "a pixel", rows(t, 0, 0, 1, 1, 5), [6]int{5, 9, 9, 9, 9, 9})
	same(t, "the last pixel", rows(t, 2, 1, 1, 1, 5), [6]int{9, 9, 9, 9, 9, 5})
	same(t, "all", rows(t, 0, 0, 3, 2, 1, 2, 3, 4, 5, 6), [6]int{1, 2, 3, 4, 5, 6})
	same(t, "a column", rows(t, 1, 0, 1, 2, 1, 2), [6]int{9, 1, 9, 9, 2, 9})
	same(t, "a row", rows(t, 0, 1, 3, 1, 1, 2, 3), [6]int{9, 9, 9, 1, 2, 3})
	same(t, "over the left side", rows(t, -1, 0, 2, 2, 1, 2, 3, 4), [6]int{2, 9, 9, 4, 9, 9})
	same(t, "over the right side", rows(t, 2, 0, 2, 2, 1, 2, 3, 4), [6]int{9, 9, 1, 9, 9, 3})
	same(t, "over the upper side", rows(t, 0, -1, 2, 2, 1, 2, 3, 4), [6]int{3, 4, 9, 9, 9, 9})
	same(t, "over the lower side", rows(t, 1, 1, 2, 2, 1, 2, 3, 4), [6]int{9, 9, 9, 9, 1, 2})
	same(t, "over all sides", rows(t, -1, -1, 5, 4, 1, 2, 3, 4, 5, 6, 7, 8, 1, 2, 3, 4, 5, 6, 7, 8, 1, 2, 3, 4), [6]int{7, 8, 1, 4, 5, 6})
	for _, at := range [][2]int{{3, 0}, {-2, 0}, {0, 2}, {0, -2}, {3, -1}, {-2, 1}, {32768, 0}, {-32768, 0}, {0, 32768}, {0, -32768}, {-32768, 32768}, {-2, -2}, {3, 2}} {
		same(t, "outside", rows(t, at[0], at[1], 2, 2, 1, 2, 3, 4), [6]int{9, 9, 9, 9, 9, 9})
	}
	same(t, "pixels that are 0", rows(t, 0, 0, 3, 1, 0, 0xffffffff, 0x01010101), [6]int{0, 0xffffffff, 0x01010101, 9, 9, 9})
}

// The document's size says nothing about what is painted.
func TestPaintOfGreatRasters(t *testing.T) {
	d := did(t, newDoc(t, 1, 1), tree.Edit{Kind: 1, W: 32768, H: 2})
	row := make([]int, 32768)
	for i := range row {
		row[i] = i % 256
	}
	d = did(t, d, tree.Edit{Kind: 4, ID: 1, X: 1, Y: 1, W: 32768, H: 1, P: row})
	p := found(t, d, 1).P
	same(t, "the first", p[32768], 0)
	same(t, "the second", p[32769], 0)
	same(t, "the third", p[32770], 1)
	same(t, "the last", p[65535], 32766%256)
	d = did(t, d, tree.Edit{Kind: 4, ID: 1, X: 32767, Y: -32767, W: 1, H: 32768, P: row})
	p = found(t, d, 1).P
	same(t, "the last of the first row", p[32767], 255)
	same(t, "the last", p[65535], 32766%256)
}

// noPixels are numbers that no Paint takes.
var noPixels = []int{-1, 1 << 32, math.MaxInt, math.MinInt, 0x01000000, 0x00010000, 0x00000100, 0xff0000fe, 0x00800060, 0x0000ff01}

func TestPaintIsRefused(t *testing.T) {
	var forms []ask
	for _, p := range noPixels {
		forms = append(forms, ask{api.ErrForm, func(e *tree.Edit) { e.P = []int{0, p} }}, ask{api.ErrForm, func(e *tree.Edit) { e.P = []int{p, 0} }})
	}
	for _, size := range [][2]int{{0, 1}, {1, 0}, {0, 0}, {-1, -2}, {-2, -1}, {1, 1}, {3, 1}, {1, 3}, {32769, 1}, {1, 32769}, {1 << 32, 1 << 32}, {math.MinInt, 1}, {math.MaxInt, 2}, {math.MinInt, math.MinInt}} {
		forms = append(forms, ask{api.ErrForm, func(e *tree.Edit) { e.W, e.H = size[0], size[1] }})
	}
	for _, n := range []int{0, 1, 3, 32769} {
		forms = append(forms, ask{api.ErrForm, func(e *tree.Edit) { e.P = make([]int, n) }})
	}
	forms = append(forms, ask{api.ErrForm, func(e *tree.Edit) { e.W, e.H, e.P = 32769, 1, make([]int, 32769) }},
		ask{api.ErrForm, func(e *tree.Edit) { e.W, e.H, e.P = 1, 32769, make([]int, 32769) }}, ask{api.ErrForm, func(e *tree.Edit) { e.W, e.H, e.P = 0, 5, nil }})
	numbers := slices.Concat(each(api.ErrId, id, noLayers...), each(api.ErrKind, id, 0, 1, 3))
	far := append([]int{32769, -32769}, beyond[1:]...)
	e := tree.Edit{Kind: 4, ID: 2, W: 2, H: 1, P: []int{1, 2}}
	inOrder(t, rich(t), e, numbers, forms, each(api.ErrLimit, func(e *tree.Edit, n int) { e.X = n }, far...))
	inOrder(t, rich(t), e, numbers, forms, each(api.ErrLimit, func(e *tree.Edit, n int) { e.Y = n }, far...))
}

func TestLook(t *testing.T) {
	for id := 1; id <= 4; id++ {
		for _, n := range []int{0, 1, 128, 254, 255} {
			for m := range 12 {
				e := tree.Edit{Kind: 5, ID: id, N: n, M: m}
				if id == 3 && m != 0 {
					answers(t, rich(t), e, api.ErrKind)
					continue
				}
				changes(t, e, func(l *tree.Layer) { l.Opacity, l.Mode = n, m })
			}
		}
	}
	numbers := each(api.ErrId, id, orRoot(noLayers)...)
	opacities := each(api.ErrValue, nn, append([]int{256}, beyond...)...)
	inOrder(t, rich(t), tree.Edit{Kind: 5, ID: 2, N: 1, M: 1}, numbers, opacities, each(api.ErrValue, mm, append([]int{12}, beyond...)...))
	inOrder(t, rich(t), tree.Edit{Kind: 5, ID: 3, N: 1}, numbers, opacities, slices.Concat(each(api.ErrValue, mm, append([]int{12}, beyond...)...), each(api.ErrKind, mm, 1, 11)))
}

func TestHide(t *testing.T) {
	for id := 1; id <= 4; id++ {
		changes(t, tree.Edit{Kind: 6, ID: id, N: 1}, func(l *tree.Layer) { l.Hidden = true })
		changes(t, tree.Edit{Kind: 6, ID: id, N: 0}, func(l *tree.Layer) { l.Hidden = false })
	}
	inOrder(t, rich(t), tree.Edit{Kind: 6, ID: 1, N: 1}, each(api.ErrId, id, orRoot(noLayers)...), each(api.ErrValue, nn, append([]int{2}, beyond...)...))
}

func TestMask(t *testing.T) {
	square := []lasso.Point{{X: 1, Y: 0}, {X: 3, Y: 0}, {X: 3, Y: 1}, {X: 1, Y: 1}}
	for id := 1; id <= 4; id++ {
		changes(t, tree.Edit{Kind: 7, ID: id, N: 0, Shape: square}, func(l *tree.Layer) { l.Mask = []byte{0, 255, 255, 0, 0, 0} })
		changes(t, tree.Edit{Kind: 7, ID: id, N: 1, Shape: square}, func(l *tree.Layer) { l.Mask = []byte{255, 0, 0, 255, 255, 255} })
		changes(t, tree.Edit{Kind: 7, ID: id, N: 0, Shape: triangle()}, func(l *tree.Layer) { l.Mask = []byte{255, 255, 0, 255, 0, 0} })
		for _, shape := range [][]lasso.Point{nil, square[:2], square, {{X: math.MaxInt}}} {
			changes(t, tree.Edit{Kind: 7, ID: id, N: 2, Shape: shape}, func(l *tree.Layer) { l.Mask = nil })
		}
	}
	var shapes []ask
	for _, shape := range [][]lasso.Point{nil, square[:2], make([]lasso.Point, 257), {{X: 1 << 21}, {}, {}}, {{}, {}, {Y: -1<<20 - 1}}} {
		shapes = append(shapes, ask{api.ErrLimit, func(e *tree.Edit) { e.Shape = shape }})
	}
	for n := range 2 {
		inOrder(t, rich(t), tree.Edit{Kind: 7, ID: 1, N: n, Shape: square},
			each(api.ErrId, id, orRoot(noLayers)...), each(api.ErrValue, nn, append([]int{3}, beyond...)...), shapes)
	}
	// The mask is that of the document's size, whatever the raster's is.
	d := did(t, newDoc(t, 5, 1), tree.Edit{Kind: 1, W: 2, H: 9}, tree.Edit{Kind: 7, ID: 1, Shape: square})
	same(t, "the mask", string(found(t, d, 1).Mask), string([]byte{0, 255, 255, 0, 0}))
}

func TestPlace(t *testing.T) {
	for _, m := range []affine.Map{affine.One(), {0, one, one, 0, 7, -7}, {one, 0, 0, one, 1 << 36, -1 << 36}, {2 * one, 0, 0, one / 2, 9, 9}} {
		for _, id := range []int{2, 4} {
			for n := range 2 {
				changes(t, tree.Edit{Kind: 8, ID: id, N: n, Map: m}, func(l *tree.Layer) { l.Map, l.Smooth = m, n == 1 })
			}
		}
	}
	var maps []ask
	for _, m := range []affine.Map{{}, {one, one, one, one, 0, 0}, {1, 0, 0, 1, 0, 0}} {
		maps = append(maps, ask{api.ErrFlat, func(e *tree.Edit) { e.Map = m }})
	}
	for _, m := range []affine.Map{{1<<24 + 1}, {one, 0, 0, one, 0, math.MinInt}, {one, 0, 0, one, -1<<36 - 1, 0}} {
		maps = append(maps, ask{api.ErrLimit, func(e *tree.Edit) { e.Map = m }})
	}
	for n := range 2 {
		inOrder(t, rich(t), tree.Edit{Kind: 8, ID: 2, N: n, Map: affine.One()},
			slices.Concat(each(api.ErrId, id, noLayers...), each(api.ErrKind, id, 0, 1, 3)), each(api.ErrValue, nn, append([]int{2}, beyond...)...), maps)
	}
}

func TestAdjust(t *testing.T) {
	tables := func(kind int, params ...int) func(e *tree.Edit) {
		return func(e *tree.Edit) { e.N, e.Params = kind, params }
	}
	for _, table := range []func(e *tree.Edit){
		tables(0, 0, 255), tables(0, 7, 8), tables(1, 5, 5), tables(1, make32()...), tables(2), tables(3, 0), tables(3, 255),
	} {
		e := tree.Edit{Kind: 9, ID: 3, M: 7, P: []int{1}}
		table(&e)
		changes(t, e, func(l *tree.Layer) { l.Table, l.Params = e.N, e.Params })
	}
	var wrong []ask
	for _, table := range []func(e *tree.Edit){
		tables(0), tables(0, 9, 9), tables(0, 1, 256), tables(0, -1, 5), tables(0, 1, 2, 3), tables(1), tables(1, 1), tables(1, 5, 5, 5, 6),
		tables(2, 0), tables(3), tables(3, 256), tables(3, 1, 2), tables(4), tables(-1), tables(math.MinInt), tables(math.MaxInt, 1, 2),
	} {
		wrong = append(wrong, ask{api.ErrValue, table})
	}
	inOrder(t, rich(t), tree.Edit{Kind: 9, ID: 3, N: 2}, slices.Concat(each(api.ErrId, id, noLayers...), each(api.ErrKind, id, 0, 1, 2, 4)), wrong)
}

// All calls end at all numbers, of documents that are none, too.
func TestCallsEnd(t *testing.T) {
	numbers := append([]int{0, 1, 2, 3, 9, 255, 256, 4096, 32768}, beyond...)
	docs := []tree.Doc{{}, rich(t), {W: 3, H: -1, Kids: rich(t).Kids}}
	for _, n := range numbers {
		l := tree.Layer{ID: 1, W: n, H: n, P: []int{n}, Mask: []byte{7}}
		docs = append(docs, tree.Doc{W: n, H: n, Next: n, Kids: []tree.Layer{l, l, {ID: n, Kind: n, Kids: []tree.Layer{l, {ID: n, Kind: 1}}}, {Kind: 1}}})
	}
	for _, d := range docs {
		d.Right()
		d.Count()
		d.Depth()
		d.Same(rich(t))
		for i, n := range numbers {
			d.Find(n)
			d.Parent(n)
			m := numbers[len(numbers)-1-i]
			for kind := 0; kind <= 10; kind++ {
				for id := range 4 {
					d.Do(tree.Edit{Kind: kind, ID: id, To: n, At: m, N: n, M: m, X: n, Y: m, W: 1, H: 1, P: []int{1}, Shape: triangle(), Map: affine.One(), Params: []int{n}})
					d.Do(tree.Edit{Kind: kind, ID: id, To: id / 2, At: -1, N: id, W: m, H: n, P: []int{n}, Shape: []lasso.Point{{X: n, Y: m}, {}, {}}, Map: affine.Map{n, m, n, n, m, n}})
				}
				d.Do(tree.Edit{Kind: n, ID: m, To: n, N: 2})
				d.Do(tree.Edit{Kind: kind, ID: n, To: m, N: 1, Params: numbers, P: numbers})
			}
		}
	}
}
