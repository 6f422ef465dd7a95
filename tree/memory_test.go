package tree_test

import (
	"cmp"
	"reflect"
	"slices"
	"testing"

	"scumble/lasso"
	"scumble/tree"
)

// room is where a list lies in memory, with its spare room.
type room struct{ from, to uintptr }

// rooms are those of all lists in a thing.
func rooms(v reflect.Value) []room {
	var all []room
	switch v.Kind() {
	case reflect.Struct:
		for i := range v.NumField() {
			all = append(all, rooms(v.Field(i))...)
		}
	case reflect.Slice:
		if v.Cap() > 0 {
			all = append(all, room{v.Pointer(), v.Pointer() + uintptr(v.Cap())*v.Type().Elem().Size()})
		}
		for i := range v.Len() {
			all = append(all, rooms(v.Index(i))...)
		}
	}
	return all
}

// apart tells where any two lists of these things share memory.
func apart(t *testing.T, things ...any) {
	t.Helper()
	var all []room
	for _, thing := range things {
		all = append(all, rooms(reflect.ValueOf(thing))...)
	}
	slices.SortFunc(all, func(a room, b room) int { return cmp.Compare(a.from, b.from) })
	for i := 1; i < len(all); i++ {
		if all[i].from < all[i-1].to {
			t.Fatal("two lists share memory")
		}
	}
}

// roomy is a copy of a list with spare room behind it.
func roomy[T any](list []T) []T { return append(make([]T, 0, len(list)+7), list...) }

// Of no two documents, layers and edits any lists share memory, the spare room neither.
func TestNothingIsShared(t *testing.T) {
	d := rich(t)
	d.Kids = roomy(d.Kids)
	d.Kids[0].Kids = roomy(d.Kids[0].Kids)
	for i := range d.Kids {
		l := &d.Kids[i]
		l.P, l.Mask, l.Params = roomy(l.P), roomy(l.Mask), roomy(l.Params)
	}
	things := []any{d}
	for _, e := range everyEdit() {
		e.P, e.Shape, e.Params = roomy(e.P), roomy(e.Shape), roomy(e.Params)
		next, fault := d.Do(e)
		same(t, "Do", fault, 0)
		things = append(things, e, next)
	}
	for id := 1; id < d.Next; id++ {
		l, _ := d.Find(id)
		m, _ := d.Find(id)
		things = append(things, l, m)
	}
	apart(t, things...)
}

// What was handed in and told may be written without being told again.
func TestWritingWhatIsTold(t *testing.T) {
	d := rich(t)
	before := told(d)
	for _, e := range everyEdit() {
		next, _ := d.Do(e)
		should := told(next)
		clear(e.P[:cap(e.P)])
		clear(e.Shape[:cap(e.Shape)])
		clear(e.Params[:cap(e.Params)])
		same(t, "what was told, when the edit is written", told(next), should)
		spoil(next.Kids)
		same(t, "the document, when what was told is written", told(d), before)
	}
	for id := 1; id < d.Next; id++ {
		l, _ := d.Find(id)
		spoil([]tree.Layer{l})
		same(t, "the document, when what was found is written", told(d), before)
	}
	same(t, "Right", d.Right(), true)
}

// spoil writes all memory that layers have.
func spoil(layers []tree.Layer) {
	for _, l := range layers {
		spoil(l.Kids)
		for i := range l.P[:cap(l.P)] {
			l.P[:cap(l.P)][i] = 77
		}
		for i := range l.Mask[:cap(l.Mask)] {
			l.Mask[:cap(l.Mask)][i] = 77
		}
		for i := range l.Params[:cap(l.Params)] {
			l.Params[:cap(l.Params)][i] = 77
		}
	}
	for i := range layers[:cap(layers)] {
		layers[:cap(layers)][i] = tree.Layer{ID: 77}
	}
}

// An edit's lists stay as they are, refused or done.
func TestEditsStay(t *testing.T) {
	shape := []lasso.Point{{X: 0, Y: 0}, {X: 3, Y: 0}, {X: 0, Y: 3}, {X: 9, Y: 9}}
	numbers := []int{1, 2, 3, 4, 5, 6, 7, 8, 9, 10, 11, 12}
	d := rich(t)
	for _, e := range everyEdit() {
		for _, n := range []int{e.N, e.N + 5} {
			e.N = n
			e.Shape, e.P, e.Params = shape[:3], numbers[:len(e.P)], numbers[6:6+len(e.Params)]
			d.Do(e)
		}
	}
	for i, n := range numbers {
		same(t, "a number handed in", n, i+1)
	}
	same(t, "a point handed in", shape[3], lasso.Point{X: 9, Y: 9})
	same(t, "a point handed in", shape[2], lasso.Point{X: 0, Y: 3})
}
