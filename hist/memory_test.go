package hist_test

import (
	"cmp"
	"reflect"
	"runtime"
	"slices"
	"testing"

	"scumble/api"
	"scumble/hist"
	"scumble/lasso"
	"scumble/tree"
)

// room is where a list lies in memory, with its spare room.
type room struct{ from, to uintptr }

// rooms are those of all lists in a thing.
func rooms(v reflect.Value) []room {
	var all []room
	switch v.Kind() {
	case reflect.Struct:
		for i := range v.NumField() {
			all = append(all, rooms(v.Field(i))...)
		}
	case reflect.Slice:
		if v.Cap() > 0 {
			all = append(all, room{v.Pointer(), v.Pointer() + uintptr(v.Cap())*v.Type().Elem().Size()})
		}
		for i := range v.Len() {
			all = append(all, rooms(v.Index(i))...)
		}
	}
	return all
}

// apart tells where any two lists of these things share memory.
func apart(t *testing.T, things ...any) {
	t.Helper()
	var all []room
	for _, thing := range things {
		all = append(all, rooms(reflect.ValueOf(thing))...)
	}
	slices.SortFunc(all, func(a room, b room) int { return cmp.Compare(a.from, b.from) })
	for i := 1; i < len(all); i++ {
		if all[i].from < all[i-1].to {
			t.Fatal("two lists share memory")
		}
	}
}

// roomy is a copy of a list with spare room behind it.
func roomy[T any](list []T) []T { return append(make([]T, 0, len(list)+7), list...) }

// spread is a document with spare room behind all lists.
func spread(d tree.Doc) tree.Doc {
	d.Kids = spreadLayers(d.Kids)
	return d
}

func spreadLayers(layers []tree.Layer) []tree.Layer {
	layers = roomy(layers)
	for i := range layers {
		l := &layers[i]
		l.P, l.Mask, l.Params, l.Kids = roomy(l.P), roomy(l.Mask), roomy(l.Params), spreadLayers(l.Kids)
	}
	return layers
}

// spoil writes all memory that a state has.
func spoil(s hist.State) {
	spoilLayers(s.Doc.Kids)
	for _, side := range [][]tree.Doc{s.Past, s.Future} {
		for _, d := range side {
			spoilLayers(d.Kids)
		}
		clear(side[:cap(side)])
	}
}

func spoilLayers(layers []tree.Layer) {
	for _, l := range layers {
		spoilLayers(l.Kids)
		clear(l.P[:cap(l.P)])
		clear(l.Mask[:cap(l.Mask)])
		clear(l.Params[:cap(l.Params)])
	}
	clear(layers[:cap(layers)])
}

// full is a state with a past and a future, in which many lists are alike, and all have
// spare room behind them.
func full(t *testing.T) hist.State {
	t.Helper()
	var docs []tree.Doc
	for i := range everyEdit() {
		docs = append(docs, spread(newDoc(t, 5, 4, everyEdit()[:i]...)))
	}
	slices.Reverse(docs[10:])
	return hist.State{Doc: spread(docs[9]), Past: roomy(docs[:9]), Future: roomy(docs[10:])}
}

func TestStatesAreApart(t *testing.T) {
	s := full(t)
	h := hist.Restore(s)
	first := h.State()
	apart(t, s, first, h.State(), h.Doc(), h.Doc(), hist.Restore(s).State(), hist.Restore(first).State())
	h.Undo()
	h.Undo()
	second := h.State()
	h.Do(tree.Edit{Kind: 6, ID: 1, N: 1})
	h.Do(tree.Edit{Kind: 6, ID: 1, N: 1})
	apart(t, s, first, second, h.State(), h.Doc())
	empty := hist.State{Doc: spread(tree.Doc{}), Past: roomy([]tree.Doc(nil)), Future: roomy([]tree.Doc(nil))}
	apart(t, empty, hist.Restore(empty).State(), hist.Open(empty.Doc).State())
}

// What was handed in or told may be written, and the history stays.
func TestWritingStates(t *testing.T) {
	should := told(full(t))
	s := full(t)
	h := hist.Restore(s)
	spoil(s)
	same(t, "when what was handed in is written", told(h.State()), should)
	spoil(h.State())
	same(t, "when what was told is written", told(h.State()), should)
	spoil(hist.State{Doc: h.Doc()})
	same(t, "when the document that was told is written", told(h.State()), should)
	h.Undo()
	spoil(h.State())
	h.Redo()
	same(t, "when what was told amid it is written", told(h.State()), should)
	d := spread(rich(t))
	h = hist.Open(d)
	spoil(hist.State{Doc: d})
	same(t, "when what was opened is written", told(h.Doc()), told(rich(t)))
}

// Restore and Open leave what is handed in as it is, the spare room too, and so does all
// that is done behind.
func TestStatesStay(t *testing.T) {
	s, d := full(t), spread(rich(t))
	should, room := told(s), told(s.Past[:cap(s.Past)])
	for _, h := range []*hist.History{hist.Restore(s), hist.Open(d)} {
		for range 3 {
			h.Redo()
			h.Undo()
			h.Undo()
		}
		for _, e := range everyEdit() {
			h.Do(e)
			h.Undo()
			h.Do(e)
		}
	}
	same(t, "what was handed in", told(s), should)
	same(t, "the spare room", told(s.Past[:cap(s.Past)]), room)
	same(t, "what was opened", told(d), told(rich(t)))
	same(t, "the spare room", told(d.Kids[:len(d.Kids)+1][len(d.Kids)]), told(tree.Layer{}))
}

// What was told stays as it was, whatever is done behind.
func TestToldStatesStay(t *testing.T) {
	h := hist.Restore(full(t))
	s, d := h.State(), h.Doc()
	for range 20 {
		h.Undo()
	}
	for _, e := range everyEdit() {
		h.Do(e)
	}
	same(t, "a state that was told", told(s), told(full(t)))
	same(t, "a document that was told", told(d), told(full(t).Doc))
}

// An edit's lists are neither changed nor kept.
func TestEditsStay(t *testing.T) {
	numbers, points := []int{red, blue, red, blue, 77}, append(block(0, 0, 2, 2), lasso.Point{X: 9})
	params := []int{0, 200, 77}
	h := hist.Open(rich(t))
	for _, e := range []tree.Edit{
		{Kind: 4, ID: 1, W: 2, H: 2, P: numbers[:4]}, {Kind: 7, ID: 1, Shape: points[:4]}, {Kind: 9, ID: 3, Params: params[:2]},
		{Kind: 4, ID: 2, W: 2, H: 2, P: numbers[:4]}, {Kind: 7, ID: 99, Shape: points[:4]}, {Kind: 9, ID: 1, Params: params[:2]},
	} {
		h.Do(e)
	}
	same(t, "the past", len(h.State().Past), 3)
	same(t, "pixels", slices.Equal(numbers, []int{red, blue, red, blue, 77}), true)
	same(t, "points", slices.Equal(points, append(block(0, 0, 2, 2), lasso.Point{X: 9})), true)
	same(t, "numbers", slices.Equal(params, []int{0, 200, 77}), true)
	should := told(h.State())
	clear(numbers)
	clear(points)
	clear(params)
	same(t, "the state, when edits are written", told(h.State()), should)
}

// held is how many bytes are in use.
func held() int {
	runtime.GC()
	var m runtime.MemStats
	runtime.ReadMemStats(&m)
	return int(m.HeapAlloc)
}

// A history takes room for what its edits changed: of forty documents with two rasters
// of two millions of bytes each it holds few times that.
func TestRoom(t *testing.T) {
	const side = 512
	before := held()
	h := hist.Open(newDoc(t, side, side, tree.Edit{Kind: 1, W: side, H: side}, tree.Edit{Kind: 1, W: side, H: side},
		tree.Edit{Kind: 7, ID: 2, Shape: block(9, 9, 400, 400)}))
	for i := range 40 {
		same(t, "Do", h.Do(look(i)), api.OK)
	}
	few := func(what string) {
		t.Helper()
		if got := held() - before; got > 4*8*side*side {
			t.Errorf("%s: %d bytes are held", what, got)
		}
	}
	h.Do(paint(1, 0, 0, 1, 1, red))
	few("behind many edits")
	h = hist.Restore(h.State())
	few("restored")
	for range 20 {
		h.Undo()
	}
	h = hist.Restore(h.State())
	few("restored with a future")
	for i := range 6 {
		same(t, "Do", h.Do(paint(1, i, 0, 1, 1, red)), api.OK)
	}
	for range 6 {
		h.Undo()
	}
	same(t, "Do", h.Do(look(99)), api.OK)
	few("behind a future that is gone")
	same(t, "the past", len(h.State().Past), 22)
	runtime.KeepAlive(h)
}
