package tree_test

import (
	"math"
	"slices"
	"testing"

	"scumble/affine"
	"scumble/tree"
)

// change is what is done to the document rich.
type change func(d *tree.Doc)

// on changes a layer.
func on(id int, do func(l *tree.Layer)) change {
	return func(d *tree.Doc) { do(layer(d, id)) }
}

// onAll changes one of the layers, each in its turn.
func onAll(do func(l *tree.Layer), ids ...int) []change {
	var all []change
	for _, id := range ids {
		all = append(all, on(id, do))
	}
	return all
}

// right tells where Right doesn't answer what it should of a changed document.
func right(t *testing.T, should bool, changes ...change) {
	t.Helper()
	for i, c := range changes {
		d := rich(t)
		c(&d)
		if d.Right() != should {
			t.Errorf("Right of the document %d is %v: %s", i, !should, told(d))
		}
	}
}

// numbers that are beyond what any thing may be.
var beyond = []int{-1, math.MinInt, math.MaxInt, 1 << 32, -1 << 32}

func TestRight(t *testing.T) {
	same(t, "Right", rich(t).Right(), true)
	same(t, "Right of nothing", tree.Doc{}.Right(), false)
	right(t, true,
		func(d *tree.Doc) { d.Next = 6 },
		func(d *tree.Doc) { d.Next = math.MaxInt },
		func(d *tree.Doc) { d.Next, layer(d, 4).ID = math.MaxInt, math.MaxInt-1 },
		func(d *tree.Doc) { layer(d, 1).ID, layer(d, 4).ID = 4, 1 },
		func(d *tree.Doc) { d.Kids = nil },
		func(d *tree.Doc) { d.Kids = []tree.Layer{} },
	)
	right(t, false,
		func(d *tree.Doc) { d.Next = 4 },
		func(d *tree.Doc) { d.Next = 1 },
		func(d *tree.Doc) { d.Next = 0 },
		func(d *tree.Doc) { d.Next = -1 },
		func(d *tree.Doc) { d.Next = math.MinInt },
		func(d *tree.Doc) { d.Next, d.Kids = 0, nil },
		func(d *tree.Doc) { d.Next, d.Kids = math.MinInt, nil },
	)
	same(t, "Right with Next 1", tree.Doc{W: 1, H: 1, Next: 1}.Right(), true)
}

func TestRightOfSizes(t *testing.T) {
	for _, w := range append([]int{0, 1, 2, 128, 2048, 32768, 32769}, beyond...) {
		for _, h := range append([]int{0, 1, 2, 128, 129, 2048, 2049, 32768, 32769}, beyond...) {
			same(t, "Right", tree.Doc{W: w, H: h, Next: 1}.Right(), !noArea(w, h))
		}
	}
}

func TestRightOfAllLayers(t *testing.T) {
	for id := 1; id <= 4; id++ {
		right(t, true,
			on(id, func(l *tree.Layer) { l.Opacity = 0 }),
			on(id, func(l *tree.Layer) { l.Opacity = 255 }),
			on(id, func(l *tree.Layer) { l.Hidden = !l.Hidden }),
			on(id, func(l *tree.Layer) { l.Mask = nil }),
			on(id, func(l *tree.Layer) { l.Mask = []byte{} }),
			on(id, func(l *tree.Layer) { l.Mask = []byte{0, 255, 255, 0, 0, 255} }),
		)
		for other := 1; other <= 4; other++ {
			if other != id {
				right(t, false, on(id, func(l *tree.Layer) { l.ID = other }))
			}
		}
		for _, n := range append([]int{0, 5}, beyond...) {
			right(t, false, on(id, func(l *tree.Layer) { l.ID = n }))
		}
		for _, n := range append([]int{3}, beyond...) {
			right(t, false, on(id, func(l *tree.Layer) { l.Kind = n }))
		}
		for _, n := range append([]int{256}, beyond...) {
			right(t, false, on(id, func(l *tree.Layer) { l.Opacity = n }))
		}
		for _, n := range append([]int{12}, beyond...) {
			right(t, false, on(id, func(l *tree.Layer) { l.Mode = n }))
		}
		for _, n := range []int{1, 5, 7, 12} {
			right(t, false, on(id, func(l *tree.Layer) { l.Mask = make([]byte, n) }))
		}
		for _, m := range []byte{1, 2, 127, 128, 254} {
			for at := range 6 {
				right(t, false, on(id, func(l *tree.Layer) {
					l.Mask = make([]byte, 6)
					l.Mask[at] = m
				}))
			}
		}
	}
	for mode := range 12 {
		right(t, true, onAll(func(l *tree.Layer) { l.Mode = mode }, 1, 2, 4)...)
		right(t, mode == 0, onAll(func(l *tree.Layer) { l.Mode = mode }, 3)...)
	}
}

func TestRightOfRasters(t *testing.T) {
	sized := func(w int, h int, n int) func(l *tree.Layer) {
		return func(l *tree.Layer) { l.W, l.H, l.P = w, h, make([]int, n) }
	}
	for _, of := range []struct {
		w, h, n int
		should  bool
	}{
		{1, 1, 1, true}, {3, 4, 12, true}, {32768, 1, 32768, true}, {1, 32768, 32768, true}, {2048, 2048, 1 << 22, true},
		{2049, 2048, 2049 * 2048, false}, {32769, 1, 32769, false}, {1, 32769, 32769, false}, {0, 0, 0, false}, {0, 1, 0, false}, {1, 0, 0, false},
		{-1, -1, 1, false}, {-2, 2, 0, false}, {1, 1, 0, false}, {1, 1, 2, false}, {3, 4, 11, false}, {3, 4, 13, false}, {4, 3, 0, false},
		{1 << 32, 1 << 32, 0, false}, {math.MinInt, 2, 0, false}, {math.MaxInt, math.MaxInt, 1, false},
	} {
		right(t, of.should, onAll(sized(of.w, of.h, of.n), 2, 4)...)
	}
	for _, p := range []int{0, 1, 255, 0xffffffff, 0x80808080, 0x80000080, 0x7f807e80, 0x000000ff} {
		right(t, true, onAll(func(l *tree.Layer) { l.P[len(l.P)-1] = p }, 2, 4)...)
	}
	for _, p := range append([]int{0x01000000, 0x00010000, 0x00000100, 0x80007f7f, 0x0080007f, 0x0000807f, 0xff0000fe, 0xffffff00}, beyond...) {
		for at := range 3 {
			right(t, false, onAll(func(l *tree.Layer) { l.P[at] = p }, 2, 4)...)
		}
	}
	for _, m := range []affine.Map{{0, one, one, 0, 1, 2}, {1 << 24, 0, 0, 1 << 24, 0, 0}, {one, 0, 0, one, 1 << 36, -1 << 36}, {one, 1, 1, one, 0, 0}} {
		right(t, true, onAll(func(l *tree.Layer) { l.Map = m }, 2, 4)...)
	}
	for _, m := range []affine.Map{{}, {one, one, one, one, 0, 0}, {1, 0, 0, 1, 0, 0}, {1<<24 + 1, 0, 0, one, 0, 0}, {one, 0, 0, one, 0, 1<<36 + 1}, {one, 0, 0, one, math.MinInt, 0}} {
		right(t, false, onAll(func(l *tree.Layer) { l.Map = m }, 2, 4)...)
	}
	right(t, true, onAll(func(l *tree.Layer) { l.Smooth = !l.Smooth }, 2, 4)...)
	right(t, false, slices.Concat(
		[]change{withKid(2), withKid(4)},
		onAll(func(l *tree.Layer) { l.Table = 0 }, 2, 4),
		onAll(func(l *tree.Layer) { l.Table, l.Params = 3, []int{9} }, 2, 4),
		onAll(func(l *tree.Layer) { l.Params = []int{0} }, 2, 4),
	)...)
}

func TestRightOfGroupsAndAdjustments(t *testing.T) {
	right(t, false, slices.Concat(
		onAll(func(l *tree.Layer) { l.W = 1 }, 1, 3),
		onAll(func(l *tree.Layer) { l.H = 1 }, 1, 3),
		onAll(func(l *tree.Layer) { l.W, l.H, l.P = 1, 1, []int{0} }, 1, 3),
		onAll(func(l *tree.Layer) { l.P = []int{0} }, 1, 3),
		onAll(func(l *tree.Layer) { l.Map = affine.Map{} }, 1, 3),
		onAll(func(l *tree.Layer) { l.Map[5] = 1 }, 1, 3),
		onAll(func(l *tree.Layer) { l.Smooth = true }, 1, 3),
		onAll(func(l *tree.Layer) { l.Table = 0 }, 1),
		onAll(func(l *tree.Layer) { l.Table, l.Params = 0, []int{1, 2} }, 1),
		onAll(func(l *tree.Layer) { l.Table, l.Params = 1, []int{1, 2} }, 1),
		onAll(func(l *tree.Layer) { l.Params = []int{0} }, 1),
		[]change{withKid(3)},
	)...)
	tables := func(kind int, params ...int) change {
		return on(3, func(l *tree.Layer) { l.Table, l.Params = kind, params })
	}
	right(t, true, tables(0, 0, 255), tables(0, 254, 255), tables(1, 7, 7), tables(1, make32()...), tables(2), tables(3, 0), tables(3, 255))
	right(t, false, tables(0), tables(0, 9), tables(0, 9, 9), tables(0, 9, 8), tables(0, 1, 256), tables(0, 1, 2, 3), tables(1), tables(1, 5),
		tables(1, 5, 5, 5, 5), tables(1, append(make32(), 99, 99)...), tables(2, 1), tables(3), tables(3, -1), tables(3, 256), tables(3, 1, 2),
		tables(4), tables(-1), tables(math.MaxInt), tables(math.MinInt, 1))
	right(t, true, withKid(1), on(1, func(l *tree.Layer) { l.Kids = nil }), on(1, func(l *tree.Layer) { l.Kids = l.Kids[1:] }))
}

// withKid lets another layer stand in one.
func withKid(id int) change {
	return func(d *tree.Doc) {
		d.Next = 6
		l := layer(d, id)
		l.Kids = append(l.Kids, plainGroup(5))
	}
}

// make32 are the numbers of a curve with as many points as it may have.
func make32() []int {
	var params []int
	for n := range 16 {
		params = append(params, n, 255-n)
	}
	return params
}

// plainGroup is a group with nothing.
func plainGroup(id int, kids ...tree.Layer) tree.Layer {
	return tree.Layer{ID: id, Kind: 1, Opacity: 255, Map: affine.One(), Table: 2, Kids: kids}
}

func TestRightOfManyLayers(t *testing.T) {
	for _, n := range []int{4095, 4096, 4097, 9000} {
		d := tree.Doc{W: 1, H: 1, Next: n + 1}
		for id := 1; id <= n; id++ {
			d.Kids = append(d.Kids, plainGroup(id))
		}
		same(t, "Right of many beside one another", d.Right(), n <= 4096)
		d.Kids = []tree.Layer{plainGroup(n, d.Kids[:n-1]...)}
		same(t, "Right of many in a group", d.Right(), n <= 4096)
	}
	for _, n := range []int{1, 63, 64, 65, 66, 1 << 16} {
		d := tree.Doc{W: 1, H: 1, Next: n + 1}
		for id := 1; id <= n; id++ {
			d.Kids = []tree.Layer{plainGroup(id, d.Kids...)}
		}
		same(t, "Right of many in one another", d.Right(), n <= 64)
	}
}

// Right ends, too, where layers are told many times, or stand within themselves.
func TestRightEnds(t *testing.T) {
	round := make([]tree.Layer, 2)
	round[0], round[1] = plainGroup(1, round...), plainGroup(2)
	round[0].Kids = round
	same(t, "Right of layers within themselves", tree.Doc{W: 1, H: 1, Next: 9, Kids: round}.Right(), false)
	kids := []tree.Layer{plainGroup(1)}
	for id := range 60 {
		kids = []tree.Layer{plainGroup(2*id+2, kids...), plainGroup(2*id+3, kids...), plainGroup(9999, kids...)}
	}
	same(t, "Right of layers that are told often", tree.Doc{W: 1, H: 1, Next: 10000, Kids: kids}.Right(), false)
}
