package pack_test

import (
	"bytes"
	"cmp"
	"reflect"
	"runtime"
	"slices"
	"testing"

	"scumble/api"
	"scumble/hist"
	"scumble/pack"
	"scumble/tree"
)

// room is where a list lies in memory, with its spare room.
type room struct{ from, to uintptr }

// rooms are those of all lists in a thing.
func rooms(v reflect.Value) []room {
	var all []room
	switch v.Kind() {
	case reflect.Struct:
		for i := range v.NumField() {
			all = append(all, rooms(v.Field(i))...)
		}
	case reflect.Slice:
		if v.Cap() > 0 {
			all = append(all, room{v.Pointer(), v.Pointer() + uintptr(v.Cap())*v.Type().Elem().Size()})
		}
		for i := range v.Len() {
			all = append(all, rooms(v.Index(i))...)
		}
	}
	return all
}

// apart tells where any two lists of these things share memory.
func apart(t *testing.T, things ...any) {
	t.Helper()
	var all []room
	for _, thing := range things {
		all = append(all, rooms(reflect.ValueOf(thing))...)
	}
	slices.SortFunc(all, func(a room, b room) int { return cmp.Compare(a.from, b.from) })
	for i := 1; i < len(all); i++ {
		if all[i].from < all[i-1].to {
			t.Fatal("two lists share memory")
		}
	}
}

// spread lets all lists in a thing have spare room behind them, which isn't 0.
func spread(v reflect.Value) {
	switch v.Kind() {
	case reflect.Struct:
		for i := range v.NumField() {
			spread(v.Field(i))
		}
	case reflect.Slice:
		roomy := reflect.MakeSlice(v.Type(), v.Len(), v.Len()+7)
		reflect.Copy(roomy, v)
		v.Set(roomy)
		for i := range v.Len() {
			spread(v.Index(i))
		}
		if v.Type().Elem().Kind() == reflect.Uint8 {
			copy(v.Bytes()[v.Len():v.Cap()], "behind")
		}
	}
}

// withRoom is a state with spare room behind all of its lists.
func withRoom(t *testing.T) hist.State {
	t.Helper()
	s := rich(t)
	spread(reflect.ValueOf(&s).Elem())
	return s
}

func editWithRoom() tree.Edit {
	e, _ := full()
	spread(reflect.ValueOf(&e).Elem())
	return e
}

// clearAll writes all memory that a thing's lists have.
func clearAll(v reflect.Value) {
	switch v.Kind() {
	case reflect.Struct:
		for i := range v.NumField() {
			clearAll(v.Field(i))
		}
	case reflect.Slice:
		for i := range v.Len() {
			clearAll(v.Index(i))
		}
		v.Slice(0, v.Cap()).Clear()
	}
}

func TestAnswersAreApart(t *testing.T) {
	s, e := withRoom(t), editWithRoom()
	state, edit := pack.PutState(s), pack.PutEdit(e)
	things := []any{s, e, state, edit, pack.PutState(s), pack.PutEdit(e)}
	for range 2 {
		got, fault := pack.GetState(state)
		same(t, "GetState", fault, api.OK)
		other, fault := pack.GetEdit(edit)
		same(t, "GetEdit", fault, api.OK)
		things = append(things, got, other)
	}
	apart(t, things...)
	none, _ := pack.GetEdit(zeros(19))
	apart(t, append(things, none, pack.PutEdit(none), pack.PutEdit(none))...)
}

// What was handed in may be written, and what was told stays; and the other way round.
func TestWriting(t *testing.T) {
	s, e := withRoom(t), editWithRoom()
	state, edit := pack.PutState(s), pack.PutEdit(e)
	clearAll(reflect.ValueOf(s))
	clearAll(reflect.ValueOf(e))
	same(t, "a state's form, when the state is written", hex(state), hex(plainForm(rich(t))))
	same(t, "an edit's form, when the edit is written", hex(edit), hex(plainForm(editWithRoom())))
	got, _ := pack.GetState(state)
	other, _ := pack.GetEdit(edit)
	clear(state[:cap(state)])
	clear(edit[:cap(edit)])
	same(t, "a state, when its form is written", told(got), told(rich(t)))
	same(t, "an edit, when its form is written", told(other), told(editWithRoom()))
	state, edit = plainForm(got), plainForm(other)
	clearAll(reflect.ValueOf(got))
	clearAll(reflect.ValueOf(other))
	same(t, "a form, when the state that was read is written", hex(state), hex(plainForm(rich(t))))
	same(t, "a form, when the edit that was read is written", hex(edit), hex(plainForm(editWithRoom())))
}

// What is handed in stays, the spare room too.
func TestWhatIsHandedInStays(t *testing.T) {
	s, e := withRoom(t), editWithRoom()
	mask := s.Doc.Kids[0].Mask
	state, edit := pack.PutState(s), pack.PutEdit(e)
	same(t, "a state", told(s), told(rich(t)))
	same(t, "an edit", told(e), told(editWithRoom()))
	same(t, "the spare room of pixels", told(e.P[:cap(e.P)]), told(append(slices.Clone(e.P), make([]int, 7)...)))
	same(t, "the spare room of the past", told(s.Past[:cap(s.Past)][len(s.Past)]), told(tree.Doc{}))
	same(t, "the spare room of a mask", string(mask[len(mask):cap(mask)]), "behind\x00")
	for _, b := range [][]byte{state, edit, state[:9], edit[:9], long(20), {}} {
		roomy := append(slices.Clone(b), "behind"...)
		pack.GetState(roomy[:len(b)])
		pack.GetEdit(roomy[:len(b)])
		same(t, "a form and its spare room", hex(roomy), hex(append(slices.Clone(b), "behind"...)))
	}
}

// Bytes behind the ones that are handed in aren't read.
func TestSpareRoomIsNotRead(t *testing.T) {
	form := plainForm(small())
	for n := range form {
		_, fault := pack.GetState(form[:n])
		same(t, "GetState", fault, api.ErrEnd)
	}
	_, fault := pack.GetEdit(zeros(19)[:18])
	same(t, "GetEdit", fault, api.ErrEnd)
}

// Lists that say that they have all that is left, within one another, take no room for
// what isn't there.
func TestRoomOfListsThatLie(t *testing.T) {
	const size = 1 << 20
	form := append([]byte{2, 2, 2}, plainNumber(size)...)
	for range 70 {
		form = slices.Concat(form, layerAhead(plainGroup(1)), plainNumber(size))
	}
	form = append(form, make([]byte, 2*size)...)
	var before, behind runtime.MemStats
	runtime.ReadMemStats(&before)
	_, fault := pack.GetState(form)
	runtime.ReadMemStats(&behind)
	same(t, "GetState", fault, api.ErrLimit)
	if got := behind.TotalAlloc - before.TotalAlloc; got > size {
		t.Errorf("%d bytes were taken", got)
	}
}

// What is kept from call to call is nothing.
func TestCallsAgain(t *testing.T) {
	s, e := rich(t), editWithRoom()
	for range 3 {
		same(t, "PutState", bytes.Equal(pack.PutState(s), plainForm(s)), true)
		same(t, "GetState", readsState(t, plainForm(s)[:50]), api.ErrEnd)
		same(t, "GetState", readsState(t, plainForm(s)), api.OK)
		same(t, "PutEdit", bytes.Equal(pack.PutEdit(e), plainForm(e)), true)
		same(t, "GetEdit", readsEdit(t, long(1, 0)), api.ErrForm)
		same(t, "GetEdit", readsEdit(t, plainForm(e)), api.OK)
	}
}
