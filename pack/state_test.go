package pack_test

import (
	"bytes"
	"math"
	"slices"
	"testing"

	"scumble/affine"
	"scumble/api"
	"scumble/hist"
	"scumble/pack"
	"scumble/tree"
)

// A state of which no two numbers are alike is written, though its documents aren't
// right.
func TestStateByHand(t *testing.T) {
	inner := tree.Layer{ID: 1, Kind: 2, Opacity: 3, Mode: 4, W: 5, H: 6, P: []int{7, -8}, Mask: []byte{0xff, 0x80, 0},
		Map: affine.Map{9, -10, 11, -12, 13, 64}, Smooth: true, Table: 14, Params: []int{-15}}
	outer := tree.Layer{ID: 16, Kind: 17, Hidden: true, Kids: []tree.Layer{inner, {ID: 18}}}
	s := hist.State{
		Doc:  tree.Doc{W: 19, H: 20, Next: 21, Kids: []tree.Layer{outer}},
		Past: []tree.Doc{{W: 22, H: 23, Next: 24}, {W: -25, H: 26, Next: 27}}, Future: []tree.Doc{{Next: 28}},
	}
	form := slices.Concat(
		[]byte{38, 40, 42, 2, 32, 34, 2}, zeros(4), []byte{0, 0}, zeros(6), []byte{0, 0, 0, 4},
		[]byte{2, 4, 0, 6, 8, 10, 12, 4, 14, 15, 6, 0xff, 0x80, 0, 18, 19, 22, 23, 26, 0x80, 1, 2, 28, 2, 29, 0},
		[]byte{36}, zeros(18),
		[]byte{4, 44, 46, 48, 0, 49, 52, 54, 0}, []byte{2, 0, 0, 56, 0},
	)
	same(t, "PutState", hex(pack.PutState(s)), hex(form))
	same(t, "GetState", readsState(t, form), api.ErrData)
	same(t, "PutState of nothing", hex(pack.PutState(hist.State{})), hex(zeros(6)))
	same(t, "GetState of nothing", readsState(t, zeros(6)), api.ErrData)
}

// small is a state whose documents are right, with all that layers may have.
func small() hist.State {
	raster := tree.Layer{ID: 1, Hidden: true, Opacity: 128, Mode: 3, W: 1, H: 2, P: []int{0x00010203, 0}, Mask: []byte{255, 0},
		Map: affine.Map{0, one, -one, 0, 1 << 36, -1 << 36}, Smooth: true, Table: 2}
	adjustment := tree.Layer{ID: 2, Kind: 2, Opacity: 255, Map: affine.One(), Table: 0, Params: []int{9, 200}}
	group := tree.Layer{ID: 64, Kind: 1, Mode: 11, Mask: []byte{0, 255}, Map: affine.One(), Table: 2, Kids: []tree.Layer{raster, adjustment}}
	return hist.State{
		Doc:    tree.Doc{W: 2, H: 1, Next: 65, Kids: []tree.Layer{group, plainGroup(5)}},
		Past:   []tree.Doc{{W: 2, H: 1, Next: 1}, {W: 2, H: 1, Next: math.MaxInt, Kids: []tree.Layer{raster}}},
		Future: []tree.Doc{{W: 1, H: 2, Next: 3, Kids: []tree.Layer{adjustment, raster}}},
	}
}

// plainGroup is a group with nothing.
func plainGroup(id int, kids ...tree.Layer) tree.Layer {
	return tree.Layer{ID: id, Kind: 1, Opacity: 255, Map: affine.One(), Table: 2, Kids: kids}
}

func TestRightStateByHand(t *testing.T) {
	raster := []byte{2, 0, 2, 0x80, 2, 6, 2, 4, 4, 0x86, 0x88, 8, 0, 4, 255, 0}
	raster = append(raster, 0, 0x80, 0x80, 8, 0xff, 0xff, 7, 0, 0x80, 0x80, 0x80, 0x80, 0x80, 4, 0xff, 0xff, 0xff, 0xff, 0xff, 3, 2, 4, 0, 0)
	still := []byte{0x80, 0x80, 8, 0, 0, 0x80, 0x80, 8, 0, 0}
	adjustment := slices.Concat([]byte{4, 4, 0, 0xfe, 3, 0, 0, 0, 0, 0}, still, []byte{0, 0, 4, 18, 0x90, 3, 0})
	empty := slices.Concat([]byte{10, 2, 0, 0xfe, 3, 0, 0, 0, 0, 0}, still, []byte{0, 4, 0, 0})
	form := slices.Concat(
		[]byte{4, 2, 0x82, 1, 4}, []byte{0x80, 1, 2, 0, 0, 22, 0, 0, 0, 4, 0, 255}, still, []byte{0, 4, 0, 4}, raster, adjustment, empty,
		[]byte{4, 4, 2, 2, 0, 4, 2, 0xfe, 0xff, 0xff, 0xff, 0xff, 0xff, 0xff, 0xff, 0xff, 1, 2}, raster,
		[]byte{2, 2, 4, 6, 4}, adjustment, raster,
	)
	same(t, "PutState", hex(pack.PutState(small())), hex(form))
	s, fault := pack.GetState(form)
	same(t, "GetState", fault, api.OK)
	same(t, "GetState", told(s), told(small()))
}

// keeps tells where a state isn't written in its form, or read back.
func keeps(t *testing.T, s hist.State) {
	t.Helper()
	form := plainForm(s)
	writes(t, s, form)
	got, fault := pack.GetState(form)
	if fault != api.OK || told(got) != told(s) {
		t.Fatalf("%s is read as %d, %+v, not %+v", hex(form), fault, got, s)
	}
}

// writes tells where a state isn't written in a form.
func writes(t *testing.T, s hist.State, form []byte) {
	t.Helper()
	if got := pack.PutState(s); !bytes.Equal(got, form) {
		t.Fatalf("%+v is written as %s, not %s", s, hex(got), hex(form))
	}
}

// Of each history that a script goes through the state is kept; and one that is made
// of it goes on as the other.
func TestHistories(t *testing.T) {
	h := hist.Open(newDoc(t, 5, 4))
	keeps(t, h.State())
	for i, e := range everyEdit() {
		same(t, "Do", h.Do(e), api.OK)
		keeps(t, h.State())
		for range i % 4 {
			h.Undo()
			keeps(t, h.State())
		}
		for range i % 4 {
			h.Redo()
		}
	}
	s, fault := pack.GetState(pack.PutState(rich(t)))
	same(t, "GetState", fault, api.OK)
	h, other := hist.Restore(rich(t)), hist.Restore(s)
	for range 30 {
		same(t, "Redo", other.Redo(), h.Redo())
		same(t, "the state", told(other.State()), told(h.State()))
	}
	for range 30 {
		same(t, "Undo", other.Undo(), h.Undo())
		same(t, "the state", told(other.State()), told(h.State()))
	}
}

// Documents of a state needn't be of one size, nor have anything alike.
func TestUnlikeDocuments(t *testing.T) {
	var docs []tree.Doc
	for n := range 9 {
		docs = append(docs, newDoc(t, 1+n, 9-n, tree.Edit{Kind: 1, W: 9 - n, H: 1 + n}, paint(1, 0, 0, 9, 9, red)))
	}
	for n := range 9 {
		keeps(t, hist.State{Doc: docs[n], Past: docs[:n], Future: docs[n+1:]})
	}
	keeps(t, hist.State{Doc: docs[0], Past: []tree.Doc{}, Future: []tree.Doc{}})
	keeps(t, hist.State{Doc: tree.Doc{W: 1 << 15, H: 1 << 7, Next: 1}})
}

func TestGreatState(t *testing.T) {
	d := newDoc(t, 2048, 2048, tree.Edit{Kind: 1, W: 2048, H: 2048}, paint(1, 0, 0, 2000, 2000, faint),
		tree.Edit{Kind: 7, ID: 1, N: 1, Shape: block(9, 9, 400, 400)})
	s := hist.State{Doc: d, Past: []tree.Doc{d}}
	form := pack.PutState(s)
	got, fault := pack.GetState(form)
	same(t, "GetState", fault, api.OK)
	same(t, "the document", got.Doc.Same(d), true)
	same(t, "the past", len(got.Past) == 1 && got.Past[0].Same(d), true)
	same(t, "the future", len(got.Future), 0)
	same(t, "the form", bytes.Equal(pack.PutState(got), form), true)
}

func TestStatesThatLackBytes(t *testing.T) {
	form := plainForm(small())
	for n := range form {
		same(t, "a form that lacks bytes", readsState(t, form[:n]), api.ErrEnd)
	}
}

// More behind a form is told ahead of documents that aren't right.
func TestBytesBehindStates(t *testing.T) {
	for _, form := range [][]byte{plainForm(small()), zeros(6)} {
		for _, behind := range [][]byte{{0}, {1}, {0x80}, {0x80, 0}, {0xff, 0xff}, form} {
			same(t, "a form with more behind it", readsState(t, slices.Concat(form, behind)), api.ErrForm)
		}
	}
}

// withPart is small's form with other bytes for a part.
func withPart(at int, b []byte) []byte {
	parts := plainParts(small())
	parts[at].b = b
	return joined(parts)
}

func TestEachNumberOfStates(t *testing.T) {
	parts := plainParts(small())
	for at, p := range parts {
		if p.what == raw {
			for n := range 256 {
				readsState(t, withPart(at, []byte{byte(n)}))
			}
			continue
		}
		longer := slices.Clone(p.b)
		longer[len(longer)-1] |= 0x80
		same(t, p.what+" with a byte too many", readsState(t, withPart(at, append(longer, 0))), api.ErrForm)
		same(t, p.what+" of eleven bytes", readsState(t, withPart(at, long(10, 1))), api.ErrForm)
		same(t, p.what+" with a tenth byte of 2", readsState(t, withPart(at, long(9, 2))), api.ErrForm)
		should := api.ErrEnd
		if len(p.b) == 10 {
			should = api.ErrForm
		}
		same(t, p.what+" that lacks bytes", readsState(t, append(joined(parts[:at]), longer...)), should)
		for _, n := range []int{-3, -2, -1, 0, 1, 2, 3, 64, 255, 256, one, math.MaxInt, math.MinInt} {
			fault := readsState(t, withPart(at, plainNumber(n)))
			if p.what == number && fault != api.OK {
				same(t, "another number", fault, api.ErrData)
			}
		}
	}
}

func TestFlags(t *testing.T) {
	found := 0
	for at, p := range plainParts(small()) {
		if p.what != flag {
			continue
		}
		found++
		for _, n := range append(ends(), 3, 4, 5, 127, 128, 255, 256) {
			if n != 0 && n != 1 {
				same(t, "a flag that is none", readsState(t, withPart(at, plainNumber(n))), api.ErrForm)
			}
		}
	}
	same(t, "flags", found, 14)
	for _, hidden := range []bool{false, true} {
		for _, smooth := range []bool{false, true} {
			s := small()
			l := &s.Doc.Kids[0].Kids[0]
			l.Hidden, l.Smooth = hidden, smooth
			s.Doc.Kids[1].Hidden = !hidden
			keeps(t, s)
		}
	}
}

func TestListsOfStates(t *testing.T) {
	parts := plainParts(small())
	for at, p := range parts {
		if p.what != count {
			continue
		}
		for _, n := range []int{-1, -2, -64, -65, -1 << 31, -1 << 32, math.MinInt} {
			same(t, "a list below 0", readsState(t, withPart(at, plainNumber(n))), api.ErrForm)
		}
		left := len(joined(parts[at+1:]))
		for _, n := range []int{left + 1, left + 2, 1 << 31, 1 << 32, 1 << 61, math.MaxInt} {
			same(t, "a list with more than is left", readsState(t, withPart(at, plainNumber(n))), api.ErrEnd)
		}
		for n := range left + 1 {
			readsState(t, withPart(at, plainNumber(n)))
		}
	}
}

// Of two errors the one that stands first is told; those of the form ahead of documents
// that aren't right.
func TestFirstErrorsOfStates(t *testing.T) {
	var flags, counts []int
	for at, p := range plainParts(small()) {
		switch p.what {
		case flag:
			flags = append(flags, at)
		case count:
			counts = append(counts, at)
		}
	}
	both := func(at int, b []byte, other int, c []byte) []byte {
		parts := plainParts(small())
		parts[at].b, parts[other].b = b, c
		return joined(parts)
	}
	for _, f := range flags {
		for _, c := range counts {
			should := api.ErrForm
			if c < f {
				should = api.ErrEnd
			}
			same(t, "a flag and a list", readsState(t, both(f, []byte{4}, c, plainNumber(9999))), should)
		}
		same(t, "a flag and a size", readsState(t, both(f, []byte{4}, 0, []byte{0})), api.ErrForm)
	}
	for _, c := range counts {
		same(t, "a list and a size", readsState(t, both(c, plainNumber(9999), 0, []byte{0})), api.ErrEnd)
	}
}
