package live_test

import (
	"cmp"
	"reflect"
	"slices"
	"testing"

	"scumble/api"
	"scumble/lasso"
	"scumble/live"
	"scumble/tree"
)

// room is where a list lies in memory, with its spare room.
type room struct{ from, to uintptr }

// rooms are those of all lists in a thing.
func rooms(v reflect.Value) []room {
	var all []room
	switch v.Kind() {
	case reflect.Struct:
		for i := range v.NumField() {
			all = append(all, rooms(v.Field(i))...)
		}
	case reflect.Slice:
		if v.Cap() > 0 {
			all = append(all, room{v.Pointer(), v.Pointer() + uintptr(v.Cap())*v.Type().Elem().Size()})
		}
		for i := range v.Len() {
			all = append(all, rooms(v.Index(i))...)
		}
	}
	return all
}

// apart tells where any two lists of these things share memory.
func apart(t *testing.T, things ...any) {
	t.Helper()
	var all []room
	for _, thing := range things {
		all = append(all, rooms(reflect.ValueOf(thing))...)
	}
	slices.SortFunc(all, func(a room, b room) int { return cmp.Compare(a.from, b.from) })
	for i := 1; i < len(all); i++ {
		if all[i].from < all[i-1].to {
			t.Fatal("two lists share memory")
		}
	}
}

// roomy is a copy of a list with spare room behind it.
func roomy[T any](list []T) []T { return append(make([]T, 0, len(list)+7), list...) }

// full is rich with all that layers may have, and with spare room behind all lists.
func full(t *testing.T) tree.Doc {
	t.Helper()
	d := rich(t, tree.Edit{Kind: 7, ID: 1, Shape: block(0, 0, 20, 20)}, tree.Edit{Kind: 7, ID: 3, Shape: block(5, 5, 20, 20)},
		tree.Edit{Kind: 9, ID: 4, N: 1, Params: []int{0, 9, 200, 8}}, tree.Edit{Kind: 9, ID: 7, Params: []int{0, 200}})
	d.Kids = spread(d.Kids)
	return d
}

func spread(layers []tree.Layer) []tree.Layer {
	layers = roomy(layers)
	for i := range layers {
		l := &layers[i]
		l.P, l.Mask, l.Params, l.Kids = roomy(l.P), roomy(l.Mask), roomy(l.Params), spread(l.Kids)
	}
	return layers
}

// spoil writes all memory that layers have.
func spoil(layers []tree.Layer) {
	for _, l := range layers {
		spoil(l.Kids)
		clear(l.P[:cap(l.P)])
		clear(l.Mask[:cap(l.Mask)])
		clear(l.Params[:cap(l.Params)])
	}
	clear(layers[:cap(layers)])
}

func TestDocumentsAreApart(t *testing.T) {
	d, o := full(t), full(t)
	l := live.Open(d)
	first := l.Doc()
	l.Set(o)
	apart(t, d, o, first, l.Doc(), l.Doc())
	apart(t, live.Open(tree.Doc{W: 1, H: 1, Next: 1, Kids: roomy([]tree.Layer(nil))}).Doc())
}

// A document that was handed in or told may be written, and the live one stays.
func TestWritingDocuments(t *testing.T) {
	should := told(full(t))
	d := full(t)
	l := live.Open(d)
	for range 2 {
		p, fault := l.Read(0, 0, 40, 40)
		same(t, "Read", fault, api.OK)
		spoil(d.Kids)
		same(t, "Doc, when what was handed in is written", told(l.Doc()), should)
		spoil(l.Doc().Kids)
		same(t, "Doc, when what was told is written", told(l.Doc()), should)
		same(t, "an edit", l.Do(tree.Edit{Kind: 6, ID: 8}), api.OK)
		q, _ := l.Read(0, 0, 40, 40)
		same(t, "Read, when documents were written", slices.Equal(p, q), true)
		d = full(t)
		l.Set(d)
	}
	same(t, "Laid", l.Laid(), 36)
}

// Open and Set leave what is handed in as it is, and so does all that is done behind.
func TestDocumentsStay(t *testing.T) {
	d, o := full(t), full(t)
	should := told(d)
	l := live.Open(d)
	for range 2 {
		for _, e := range ofLayers() {
			l.Do(e)
			l.Do(paint(1, 0, 0, 40, 40, blue))
			l.Read(0, 0, 40, 40)
		}
		same(t, "the document that was handed in", told(d), should)
		same(t, "the other one", told(o), should)
		l.Set(o)
	}
}

// What was read may be written, and is read again as it was.
func TestWritingPixels(t *testing.T) {
	l := live.Open(full(t))
	p, _ := l.Read(0, 0, 40, 40)
	q, _ := l.Read(0, 0, 16, 16)
	r, _ := l.Read(0, 0, 16, 16)
	apart(t, p, q, r)
	should := slices.Clone(p)
	for range 2 {
		clear(p[:cap(p)])
		clear(q[:cap(q)])
		p, _ = l.Read(0, 0, 40, 40)
		same(t, "Read, when what was read is written", slices.Equal(p, should), true)
		q, _ = l.Read(0, 0, 16, 16)
		same(t, "a tile, when what was read is written", slices.Equal(q, r), true)
	}
	before := slices.Clone(p)
	l.Do(tree.Edit{Kind: 2, ID: 1})
	l.Read(0, 0, 40, 40)
	l.Set(tree.Doc{})
	same(t, "what was read stays", slices.Equal(p, before), true)
}

// An edit's lists are neither changed nor kept.
func TestEditsStay(t *testing.T) {
	numbers, points := []int{red, blue, red, blue, 77}, append(block(0, 0, 20, 20), lasso.Point{X: 9})
	params := []int{0, 200, 77}
	l := live.Open(full(t))
	for _, e := range []tree.Edit{
		{Kind: 4, ID: 1, W: 2, H: 2, P: numbers[:4]}, {Kind: 7, ID: 1, Shape: points[:4]}, {Kind: 9, ID: 4, Params: params[:2]},
		{Kind: 4, ID: 2, W: 2, H: 2, P: numbers[:4]}, {Kind: 7, ID: 99, Shape: points[:4]}, {Kind: 9, ID: 1, Params: params[:2]},
	} {
		l.Do(e)
	}
	same(t, "pixels", slices.Equal(numbers, []int{red, blue, red, blue, 77}), true)
	same(t, "points", slices.Equal(points, append(block(0, 0, 20, 20), lasso.Point{X: 9})), true)
	same(t, "numbers", slices.Equal(params, []int{0, 200, 77}), true)
	should := told(l.Doc())
	clear(numbers)
	clear(points)
	clear(params)
	same(t, "the document, when edits are written", told(l.Doc()), should)
}
