package pack_test

import (
	"slices"
	"testing"

	"scumble/affine"
	"scumble/api"
	"scumble/hist"
	"scumble/lasso"
	"scumble/tree"
)

// draw is a row of numbers that looks without a rule, alike at each run.
type draw struct{ state uint64 }

func (d *draw) next(n int) int {
	d.state = d.state*6364136223846793005 + 1442695040888963407
	return int(d.state>>20) % n
}

// from is a number from one to another.
func (d *draw) from(least int, most int) int { return least + d.next(most-least+1) }

// of is one of these.
func of[T any](d *draw, things ...T) T { return things[d.next(len(things))] }

// number is any one, of any size.
func (d *draw) number() int {
	n := int(d.state*0x9e3779b97f4a7c15) >> d.next(64)
	return n ^ d.next(2)
}

// list is a short one.
func list[T any](d *draw, one func() T) []T {
	var things []T
	for range of(d, 0, 1, 2, d.next(9)) {
		things = append(things, one())
	}
	return things
}

func (d *draw) plane() (m affine.Map) {
	for i := range m {
		m[i] = d.number()
	}
	return m
}

func (d *draw) edit() tree.Edit {
	return tree.Edit{
		Kind: d.number(), ID: d.number(), To: d.number(), At: d.number(), N: d.number(), M: d.number(),
		X: d.number(), Y: d.number(), W: d.number(), H: d.number(), P: list(d, d.number),
		Shape: list(d, func() lasso.Point { return lasso.Point{X: d.number(), Y: d.number()} }), Map: d.plane(), Params: list(d, d.number),
	}
}

// layer is any one, right or not.
func (d *draw) layer(depth int) tree.Layer {
	l := tree.Layer{
		ID: d.number(), Kind: d.number(), Hidden: d.next(2) == 0, Opacity: d.number(), Mode: d.number(), W: d.number(), H: d.number(),
		P: list(d, d.number), Mask: list(d, func() byte { return byte(d.next(256)) }), Map: d.plane(), Smooth: d.next(2) == 0, Table: d.number(), Params: list(d, d.number),
	}
	if depth < 4 {
		l.Kids = list(d, func() tree.Layer { return d.layer(depth + 1) })
	}
	return l
}

func (d *draw) doc() tree.Doc {
	return tree.Doc{W: d.number(), H: d.number(), Next: d.number(), Kids: list(d, func() tree.Layer { return d.layer(1) })}
}

// step is one of a history, which may be refused.
func (d *draw) step(h *hist.History) {
	switch d.next(6) {
	case 0:
		h.Undo()
	case 1:
		h.Redo()
	default:
		e := everyEdit()[d.next(len(everyEdit()))]
		e.ID = of(d, e.ID, d.from(1, 6))
		h.Do(e)
	}
}

// history is a state that edits lead to.
func (d *draw) history(t *testing.T) hist.State {
	t.Helper()
	h := hist.Open(newDoc(t, d.from(1, 4), d.from(1, 4)))
	for range d.next(12) {
		d.step(h)
	}
	return h.State()
}

// spoil changes a form, at one place or a few.
func (d *draw) spoil(b []byte) []byte {
	b = slices.Clone(b)
	for range of(d, 1, 1, 2, 5) {
		at := d.next(len(b))
		some := []byte{of(d, byte(0), 1, 2, 4, 0x7f, 0x80, 0xff, byte(d.next(256)))}
		switch d.next(5) {
		case 0:
			b = slices.Insert(b, at, some...)
		case 1:
			b = slices.Delete(b, at, min(at+d.from(1, 3), len(b)-1))
		case 2:
			b[at] ^= 1 << d.next(8)
		default:
			b[at] = some[0]
		}
		if len(b) == 0 {
			return []byte{0}
		}
	}
	return b
}

// often tells which errors were answered too seldom for a test to tell anything of them.
func often(t *testing.T, met map[api.Errno]int, faults ...api.Errno) {
	t.Helper()
	for _, fault := range faults {
		if met[fault] < 100 {
			t.Errorf("too few: %d, of %v", fault, met)
		}
	}
}

func TestDrawnEdits(t *testing.T) {
	met := map[api.Errno]int{}
	for seed := range 800 {
		d := &draw{uint64(seed)}
		e := d.edit()
		roundTrip(t, e)
		for range 20 {
			met[readsEdit(t, d.spoil(plainForm(e)))]++
		}
	}
	often(t, met, api.OK, api.ErrEnd, api.ErrForm)
}

func TestDrawnStates(t *testing.T) {
	met := map[api.Errno]int{}
	for seed := range 1000 {
		d := &draw{uint64(seed)}
		s := d.history(t)
		keeps(t, s)
		form := plainForm(s)
		for range 20 {
			met[readsState(t, d.spoil(form))]++
		}
	}
	often(t, met, api.OK, api.ErrEnd, api.ErrForm, api.ErrData)
}

// States that no edits lead to are written, too.
func TestDrawnLayers(t *testing.T) {
	for seed := range 120 {
		d := &draw{uint64(seed)}
		s := hist.State{Doc: d.doc(), Past: list(d, d.doc), Future: list(d, d.doc)}
		form := plainForm(s)
		writes(t, s, form)
		same(t, "GetState", readsState(t, form), api.ErrData)
		for range 5 {
			readsState(t, d.spoil(form))
		}
	}
}

// Rows of bytes that no form was made into.
func TestDrawnBytes(t *testing.T) {
	for seed := range 5000 {
		d := &draw{uint64(seed)}
		b := make([]byte, d.next(60))
		for i := range b {
			b[i] = of(d, byte(0), 0, 0, 0, 2, 4, byte(d.next(256)))
		}
		readsEdit(t, b)
		readsState(t, b)
	}
}
