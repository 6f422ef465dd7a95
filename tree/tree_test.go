package tree_test

import (
	"math"
	"testing"

	"scumble/affine"
	"scumble/api"
	"scumble/lasso"
	"scumble/tree"
)

func same[T comparable](t *testing.T, what string, got T, should T) {
	t.Helper()
	if got != should {
		t.Errorf("%s: %v, not %v", what, got, should)
	}
}

// did is the document behind edits that may be done.
func did(t *testing.T, d tree.Doc, edits ...tree.Edit) tree.Doc {
	t.Helper()
	for _, e := range edits {
		next, fault := d.Do(e)
		if fault != api.OK {
			t.Fatalf("%+v: %d", e, fault)
		}
		d = next
	}
	return d
}

// answers tells where an edit isn't answered with this error, or something is told beside it.
func answers(t *testing.T, d tree.Doc, e tree.Edit, should api.Errno) {
	t.Helper()
	next, fault := d.Do(e)
	if fault != should {
		t.Errorf("%+v: %d, not %d", e, fault, should)
	}
	if fault != api.OK {
		same(t, "beside an error", told(next), told(tree.Doc{}))
	}
}

// newDoc is a document without layers.
func newDoc(t *testing.T, w int, h int) tree.Doc {
	t.Helper()
	d, e := tree.New(w, h)
	same(t, "New", e, api.OK)
	return d
}

// rich has a layer of each kind with all that it may have: the group 1, in it the
// raster 2 and the adjustment 3, beside it the raster 4.
func rich(t *testing.T) tree.Doc {
	t.Helper()
	return did(t, newDoc(t, 3, 2), append([]tree.Edit{
		{Kind: 1, N: 1, At: -1}, {Kind: 1, To: 1, At: -1, W: 2, H: 2},
		{Kind: 1, N: 2, To: 1, At: -1}, {Kind: 1, At: 1, W: 1, H: 3},
		{Kind: 7, ID: 1, Shape: triangle()}, {Kind: 7, ID: 2, N: 1, Shape: triangle()}, {Kind: 7, ID: 3, Shape: triangle()},
	}, everyEdit()[3:]...)...)
}

func triangle() []lasso.Point { return []lasso.Point{{X: 0, Y: 0}, {X: 3, Y: 0}, {X: 0, Y: 3}} }

// everyEdit is one of each kind, by their order, that may be done to the document rich.
func everyEdit() []tree.Edit {
	return []tree.Edit{
		{Kind: 1, To: 1, At: 1, W: 2, H: 1},
		{Kind: 2, ID: 1},
		{Kind: 3, ID: 4, To: 1, At: 1},
		{Kind: 4, ID: 2, X: 1, W: 1, H: 2, P: []int{0x01020304, 0xffffffff}},
		{Kind: 5, ID: 2, N: 128, M: 3},
		{Kind: 6, ID: 2, N: 1},
		{Kind: 7, ID: 1, N: 0, Shape: triangle()},
		{Kind: 8, ID: 2, N: 1, Map: affine.Map{0, -one, one, 0, 5, -5}},
		{Kind: 9, ID: 3, N: 1, Params: []int{0, 9, 200, 8}},
	}
}

func TestExample(t *testing.T) {
	d := newDoc(t, 4, 4)
	d = did(t, d, tree.Edit{Kind: 1, At: -1, W: 4, H: 4}, tree.Edit{Kind: 1, N: 1})
	same(t, "below", d.Kids[0].ID, 2)
	same(t, "above", d.Kids[1].ID, 1)
	d = did(t, d, tree.Edit{Kind: 3, ID: 1, To: 2})
	answers(t, d, tree.Edit{Kind: 3, ID: 2, To: 1}, api.ErrKind)
	answers(t, d, tree.Edit{Kind: 3, ID: 2, To: 2}, api.ErrCycle)
	same(t, "Depth", d.Depth(), 2)
	same(t, "Count", d.Count(), 2)
}

func TestNew(t *testing.T) {
	for _, of := range []struct {
		w, h int
		e    api.Errno
	}{
		{1, 1, api.OK}, {4, 5, api.OK}, {32768, 1, api.OK}, {1, 32768, api.OK}, {32768, 128, api.OK}, {128, 32768, api.OK}, {2048, 2048, api.OK},
		{0, 1, api.ErrLimit}, {1, 0, api.ErrLimit}, {0, 0, api.ErrLimit}, {-1, 1, api.ErrLimit}, {1, -1, api.ErrLimit}, {-2, -2, api.ErrLimit},
		{32769, 1, api.ErrLimit}, {1, 32769, api.ErrLimit}, {32768, 129, api.ErrLimit}, {129, 32768, api.ErrLimit}, {2049, 2048, api.ErrLimit},
		{2048, 2049, api.ErrLimit}, {32768, 32768, api.ErrLimit}, {math.MaxInt, math.MaxInt, api.ErrLimit}, {math.MinInt, math.MinInt, api.ErrLimit},
		{1 << 32, 1 << 32, api.ErrLimit}, {math.MinInt, 1, api.ErrLimit}, {math.MaxInt, 1, api.ErrLimit}, {1, math.MinInt, api.ErrLimit},
	} {
		d, e := tree.New(of.w, of.h)
		same(t, "New", e, of.e)
		same(t, "Right", d.Right(), of.e == api.OK)
		should := tree.Doc{}
		if of.e == api.OK {
			should = tree.Doc{W: of.w, H: of.h, Next: 1}
		}
		same(t, "New", told(d), told(should))
		same(t, "Count", d.Count(), 0)
		same(t, "Depth", d.Depth(), 0)
	}
}

func TestFindAndParent(t *testing.T) {
	d := rich(t)
	for id, at := range map[int][2]int{1: {0, 0}, 2: {1, 0}, 3: {1, 1}, 4: {0, 1}} {
		l, found := d.Find(id)
		to, place, stands := d.Parent(id)
		same(t, "Find", found, true)
		same(t, "Find's number", l.ID, id)
		same(t, "Parent", stands, true)
		same(t, "Parent", [2]int{to, place}, at)
	}
	l, _ := d.Find(1)
	same(t, "Kids of what is found", len(l.Kids), 2)
	same(t, "a Kid of what is found", told(tree.Doc{Kids: l.Kids}), told(tree.Doc{Kids: d.Kids[0].Kids}))
	for _, id := range []int{0, -1, 5, 6, math.MinInt, math.MaxInt} {
		l, found := d.Find(id)
		to, at, stands := d.Parent(id)
		same(t, "Find of nothing", found, false)
		same(t, "Find of nothing", told(tree.Doc{Kids: []tree.Layer{l}}), told(tree.Doc{Kids: []tree.Layer{{}}}))
		same(t, "Parent of nothing", stands, false)
		same(t, "Parent of nothing", [2]int{to, at}, [2]int{})
	}
	gone := did(t, d, tree.Edit{Kind: 2, ID: 1})
	for id := 1; id <= 3; id++ {
		_, found := gone.Find(id)
		same(t, "Find of what is deleted", found, false)
	}
	same(t, "Count behind a Delete", gone.Count(), 1)
}

// nested is a document of groups in one another, the first one in the root.
func nested(t *testing.T, deep int) tree.Doc {
	t.Helper()
	d := newDoc(t, 1, 1)
	for n := range deep {
		d = did(t, d, tree.Edit{Kind: 1, N: 1, To: n})
		same(t, "Depth", d.Depth(), n+1)
		same(t, "Count", d.Count(), n+1)
	}
	return d
}

func TestDepth(t *testing.T) {
	d := nested(t, 64)
	same(t, "Right", d.Right(), true)
	for n := range 3 {
		answers(t, d, tree.Edit{Kind: 1, N: n, To: 64, W: 1, H: 1}, api.ErrLimit)
		same(t, "Depth", did(t, d, tree.Edit{Kind: 1, N: n, To: 63, W: 1, H: 1}).Depth(), 64)
	}
	d = did(t, d, tree.Edit{Kind: 1, N: 2, To: 1}, tree.Edit{Kind: 1, N: 1, To: 0})
	same(t, "Depth beside the deepest", d.Depth(), 64)
	d = did(t, d, tree.Edit{Kind: 2, ID: 64})
	same(t, "Depth behind a Delete", d.Depth(), 63)
	d = did(t, d, tree.Edit{Kind: 2, ID: 1})
	same(t, "Depth behind a Delete", d.Depth(), 1)
}

func TestSame(t *testing.T) {
	d := rich(t)
	same(t, "Same as itself", d.Same(d), true)
	same(t, "Same as one that is made again", d.Same(rich(t)), true)
	same(t, "Same of nothing", tree.Doc{}.Same(tree.Doc{}), true)
	for i, other := range others(t) {
		if d.Same(other) || other.Same(d) {
			t.Errorf("Same as the other %d", i)
		}
		same(t, "the other as itself", other.Same(other), true)
	}
}

// Nil and empty lists are one.
func TestSameOfEmptyLists(t *testing.T) {
	d := did(t, newDoc(t, 1, 1), tree.Edit{Kind: 1, N: 1}, tree.Edit{Kind: 1, N: 2})
	o := did(t, newDoc(t, 1, 1), tree.Edit{Kind: 1, N: 1}, tree.Edit{Kind: 1, N: 2})
	for i := range o.Kids {
		d.Kids[i].P, d.Kids[i].Mask, d.Kids[i].Params, d.Kids[i].Kids = nil, nil, nil, nil
		o.Kids[i].P, o.Kids[i].Mask, o.Kids[i].Params, o.Kids[i].Kids = []int{}, []byte{}, []int{}, []tree.Layer{}
	}
	same(t, "Same", d.Same(o), true)
	same(t, "Same", o.Same(d), true)
	same(t, "Same", tree.Doc{}.Same(tree.Doc{Kids: []tree.Layer{}}), true)
	same(t, "Same", tree.Doc{Kids: []tree.Layer{}}.Same(tree.Doc{}), true)
	same(t, "Right", o.Right(), true)
	for _, e := range []tree.Edit{{Kind: 6, ID: 1, N: 1}, {Kind: 1, To: 2, N: 1}, {Kind: 9, ID: 1, N: 3, Params: []int{1}}} {
		a, fault := d.Do(e)
		b, other := o.Do(e)
		same(t, "Do", fault, other)
		same(t, "Do", told(a), told(b))
	}
}

// others are documents that differ from the one of rich in one thing each.
func others(t *testing.T) []tree.Doc {
	changes := []func(d *tree.Doc, l *tree.Layer){
		func(d *tree.Doc, l *tree.Layer) { d.W++ },
		func(d *tree.Doc, l *tree.Layer) { d.H++ },
		func(d *tree.Doc, l *tree.Layer) { d.Next++ },
		func(d *tree.Doc, l *tree.Layer) { d.Kids = d.Kids[:1] },
		func(d *tree.Doc, l *tree.Layer) { d.Kids[0], d.Kids[1] = d.Kids[1], d.Kids[0] },
		func(d *tree.Doc, l *tree.Layer) { l.ID = 9 },
		func(d *tree.Doc, l *tree.Layer) { l.Kind = (l.Kind + 1) % 3 },
		func(d *tree.Doc, l *tree.Layer) { l.Hidden = !l.Hidden },
		func(d *tree.Doc, l *tree.Layer) { l.Opacity-- },
		func(d *tree.Doc, l *tree.Layer) { l.Mode++ },
		func(d *tree.Doc, l *tree.Layer) { l.W++ },
		func(d *tree.Doc, l *tree.Layer) { l.H++ },
		func(d *tree.Doc, l *tree.Layer) { l.P = append(l.P, 0) },
		func(d *tree.Doc, l *tree.Layer) { l.Mask = append(l.Mask, 0) },
		func(d *tree.Doc, l *tree.Layer) { l.Map[3]++ },
		func(d *tree.Doc, l *tree.Layer) { l.Map[4]++ },
		func(d *tree.Doc, l *tree.Layer) { l.Smooth = !l.Smooth },
		func(d *tree.Doc, l *tree.Layer) { l.Table++ },
		func(d *tree.Doc, l *tree.Layer) { l.Params = append(l.Params, 0) },
		func(d *tree.Doc, l *tree.Layer) { l.Kids = append(l.Kids, tree.Layer{ID: 7}) },
	}
	var all []tree.Doc
	for _, change := range changes {
		for id := 1; id <= 4; id++ {
			d := rich(t)
			change(&d, layer(&d, id))
			all = append(all, d)
		}
	}
	for _, change := range []func(d *tree.Doc){
		func(d *tree.Doc) { layer(d, 2).P[3] = 0x01 },
		func(d *tree.Doc) { layer(d, 2).P[0] = 0xff },
		func(d *tree.Doc) { layer(d, 4).P = layer(d, 4).P[:2] },
		func(d *tree.Doc) { layer(d, 2).Mask[0] ^= 255 },
		func(d *tree.Doc) { layer(d, 3).Mask = nil },
		func(d *tree.Doc) { layer(d, 3).Params[3]++ },
		func(d *tree.Doc) { layer(d, 1).Kids = layer(d, 1).Kids[:1] },
	} {
		d := rich(t)
		change(&d)
		all = append(all, d)
	}
	return all
}

// layer is a layer of the document rich, or of one like it, to be changed there.
func layer(d *tree.Doc, id int) *tree.Layer {
	return map[int]*tree.Layer{1: &d.Kids[0], 2: &d.Kids[0].Kids[0], 3: &d.Kids[0].Kids[1], 4: &d.Kids[1]}[id]
}
