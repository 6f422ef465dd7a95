package tree_test

import (
	"math"
	"slices"
	"testing"

	"scumble/affine"
	"scumble/api"
	"scumble/lasso"
	"scumble/tree"
)

// both are a document and the plain one, which should be alike.
type both struct {
	doc   tree.Doc
	plain *plainDoc
}

// holds does an edit on both, and asks all that can be asked.
func (b *both) holds(t *testing.T, e tree.Edit) {
	t.Helper()
	before := told(b.doc)
	next, got := b.doc.Do(e)
	should := b.plain.do(e)
	if got != should {
		t.Fatalf("%+v\nof %s:\n%d, not %d", e, before, got, should)
	}
	if told(b.doc) != before {
		t.Fatalf("%+v\nchanged %s\nto %s", e, before, told(b.doc))
	}
	if got != api.OK {
		same(t, "beside an error", told(next), told(tree.Doc{}))
		return
	}
	apart(t, b.doc, next, e)
	b.doc = next
	if told(next) != told(b.plain.doc()) {
		t.Fatalf("%+v\nof %s:\n%s, not\n%s", e, before, told(next), told(b.plain.doc()))
	}
	b.asked(t)
}

// asked tells where a document answers otherwise than the plain one.
func (b *both) asked(t *testing.T) {
	t.Helper()
	same(t, "Right", b.doc.Right(), true)
	same(t, "Same", b.doc.Same(b.plain.doc()), true)
	same(t, "Count", b.doc.Count(), len(b.plain.layers))
	deepest := 0
	for id := -1; id <= b.plain.next; id++ {
		l, found := b.doc.Find(id)
		to, at, stands := b.doc.Parent(id)
		should := b.plain.layers[id]
		same(t, "Find", found, should != nil)
		same(t, "Parent", stands, should != nil)
		if should == nil {
			same(t, "Find of nothing", told(tree.Doc{Kids: []tree.Layer{l}}), told(tree.Doc{Kids: []tree.Layer{{}}}))
			same(t, "Parent of nothing", [2]int{to, at}, [2]int{})
			continue
		}
		same(t, "Parent", [2]int{to, at}, [2]int{should.in, slices.Index(b.plain.kids[should.in], id)})
		kids := b.plain.kidsOf(should.in)
		same(t, "Find", told(tree.Doc{Kids: []tree.Layer{l}}), told(tree.Doc{Kids: kids[at : at+1]}))
		deepest = max(deepest, b.plain.depth(id))
	}
	same(t, "Depth", b.doc.Depth(), deepest)
}

// drawn is an edit that is often one that may be done, and else may be any.
func (b *both) drawn(d *draw) tree.Edit {
	id := func() int {
		return of(d, d.from(0, b.plain.next), d.from(1, b.plain.next), d.from(1, b.plain.next), -1)
	}
	e := tree.Edit{
		Kind: of(d, 1, 1, 1, 1, 2, 3, 3, 3, 4, 4, 5, 6, 7, 8, 9, 9, d.from(-1, 11)), ID: id(), To: of(d, id(), 0),
		At: of(d, -1, 0, 0, 1, d.from(-2, 6)), N: of(d, 0, 0, 1, 1, 2, 3, d.from(-1, 256)), M: of(d, 0, 0, d.from(-1, 12)),
		X: d.from(-3, 3), Y: d.from(-3, 3), W: d.from(1, 3), H: d.from(1, 3),
		Map: affine.Map{one, 0, 0, one, 0, 0},
	}
	if d.next(20) == 0 {
		e.X, e.Y = of(d, 32768, -32768, 32769), of(d, 32768, -32768, -32769)
	}
	if d.next(20) == 0 {
		e.W, e.H = of(d, 0, -1, 1, 3, 32769, math.MinInt), of(d, 1, 0, 32769, math.MaxInt)
	}
	for range max(min(e.W*e.H, 9), 0) + of(d, 0, 0, 0, 0, 0, 0, 0, -1, 1) {
		a := d.from(0, 255)
		e.P = append(e.P, d.from(0, a)<<24|d.from(0, a)<<16|d.from(0, a)<<8|a)
	}
	for range of(d, 3, 4, d.from(0, 6)) {
		e.Shape = append(e.Shape, lasso.Point{X: d.from(-2, 6), Y: d.from(-2, 6)})
	}
	for range d.next(5) {
		e.Params = append(e.Params, d.from(0, 255))
	}
	for range d.next(4) {
		e.Map[d.next(6)] = of(d, d.from(-3*one, 3*one), 0, 0, 1<<24, 1<<37)
	}
	return e
}

func TestDrawnScripts(t *testing.T) {
	errors := map[api.Errno]int{}
	for seed := range 200 {
		d := &draw{uint64(seed)}
		w, h := d.from(1, 5), d.from(1, 5)
		doc, e := tree.New(w, h)
		same(t, "New", e, api.OK)
		b := &both{doc, newPlain(w, h)}
		for range 120 {
			b.holds(t, b.drawn(d))
		}
		for range 50 {
			_, e := b.doc.Do(b.drawn(d))
			errors[e]++
		}
	}
	for _, e := range []api.Errno{api.OK, api.ErrId, api.ErrKind, api.ErrCycle, api.ErrPlace, api.ErrForm, api.ErrLimit, api.ErrValue, api.ErrFlat} {
		if errors[e] == 0 {
			t.Error("no edit is answered", e)
		}
	}
}

// Scripts of two edits that let layers stand elsewhere, in a tree of six: all first ones,
// each with many second ones.
func TestAllMoves(t *testing.T) {
	var few []tree.Edit
	for id := range 8 {
		few = append(few, tree.Edit{Kind: 2, ID: id})
		for _, to := range []int{0, 1, 2, 3, 5} {
			for at := -2; at < 4; at++ {
				few = append(few, tree.Edit{Kind: 3, ID: id, To: to, At: at})
			}
		}
	}
	for i, e := range few {
		for j, f := range few {
			if (i*len(few)+j)%7 != 0 {
				continue
			}
			b := &both{small(t), plainSmall()}
			b.holds(t, e)
			b.holds(t, f)
			b.holds(t, tree.Edit{Kind: 1, N: 1, To: 2, At: 0})
		}
	}
}

// small has the layers 1 to 3 (groups) and 4 to 6 (a raster, a group, an adjustment);
// 2 and 3 stand in 1, and 4 and 5 in 3.
func small(t *testing.T) tree.Doc {
	t.Helper()
	d, e := tree.New(3, 2)
	same(t, "New", e, api.OK)
	return did(t, d, smallEdits()...)
}

func plainSmall() *plainDoc {
	p := newPlain(3, 2)
	for _, e := range smallEdits() {
		p.do(e)
	}
	return p
}

func smallEdits() []tree.Edit {
	return []tree.Edit{
		{Kind: 1, N: 1, To: 0, At: 0}, {Kind: 1, N: 1, To: 1, At: 0}, {Kind: 1, N: 1, To: 1, At: 1},
		{Kind: 1, N: 0, To: 3, At: 0, W: 2, H: 2}, {Kind: 1, N: 1, To: 3, At: -1}, {Kind: 1, N: 2, To: 0, At: 1},
	}
}
