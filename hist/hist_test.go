package hist_test

import (
	"math"
	"testing"

	"scumble/affine"
	"scumble/api"
	"scumble/hist"
	"scumble/tree"
)

// sheet is a document with one raster, all of one pixel.
func sheet(t *testing.T, w int, h int) tree.Doc {
	t.Helper()
	return newDoc(t, w, h, tree.Edit{Kind: 1, W: w, H: h}, paint(1, 0, 0, w, h, faint))
}

// holds tells whether a history has these documents.
func holds(t *testing.T, what string, h *hist.History, doc tree.Doc, past []tree.Doc, future []tree.Doc) {
	t.Helper()
	same(t, what+": State", told(h.State()), told(hist.State{Doc: doc, Past: past, Future: future}))
	same(t, what+": Doc", told(h.Doc()), told(doc))
}

func TestExample(t *testing.T) {
	h := hist.Open(sheet(t, 2, 2))
	for _, fault := range []api.Errno{h.Do(look(1)), h.Do(look(2)), h.Undo(), h.Do(look(3))} {
		same(t, "the example", fault, api.OK)
	}
	s := h.State()
	same(t, "the past", len(s.Past), 2)
	same(t, "the future", len(s.Future), 0)
}

func TestOpen(t *testing.T) {
	for _, d := range []tree.Doc{sheet(t, 3, 2), newDoc(t, 1, 1), {}, rich(t)} {
		h := hist.Open(d)
		holds(t, "opened", h, d, nil, nil)
		same(t, "Undo", h.Undo(), api.ErrNothing)
		same(t, "Redo", h.Redo(), api.ErrNothing)
		holds(t, "refused", h, d, nil, nil)
	}
}

// A few steps, each with all of the state behind it.
func TestSteps(t *testing.T) {
	a := sheet(t, 2, 2)
	b, _ := a.Do(look(1))
	c, _ := b.Do(look(2))
	d, _ := b.Do(paint(1, 1, 1, 1, 1, red))
	e, _ := a.Do(tree.Edit{Kind: 2, ID: 1})
	h := hist.Open(a)
	do := func(e tree.Edit) func() api.Errno { return func() api.Errno { return h.Do(e) } }
	for _, step := range []struct {
		what         string
		do           func() api.Errno
		fault        api.Errno
		doc          tree.Doc
		past, future []tree.Doc
	}{
		{"an edit", do(look(1)), api.OK, b, []tree.Doc{a}, nil},
		{"another edit", do(look(2)), api.OK, c, []tree.Doc{a, b}, nil},
		{"Redo of nothing", h.Redo, api.ErrNothing, c, []tree.Doc{a, b}, nil},
		{"Undo", h.Undo, api.OK, b, []tree.Doc{a}, []tree.Doc{c}},
		{"Undo of the first", h.Undo, api.OK, a, nil, []tree.Doc{c, b}},
		{"Undo of nothing", h.Undo, api.ErrNothing, a, nil, []tree.Doc{c, b}},
		{"Redo", h.Redo, api.OK, b, []tree.Doc{a}, []tree.Doc{c}},
		{"a Paint instead", do(paint(1, 1, 1, 1, 1, red)), api.OK, d, []tree.Doc{a, b}, nil},
		{"Redo of nothing", h.Redo, api.ErrNothing, d, []tree.Doc{a, b}, nil},
		{"Undo of the Paint", h.Undo, api.OK, b, []tree.Doc{a}, []tree.Doc{d}},
		{"Undo of all", h.Undo, api.OK, a, nil, []tree.Doc{d, b}},
		{"a Delete instead", do(tree.Edit{Kind: 2, ID: 1}), api.OK, e, []tree.Doc{a}, nil},
		{"Undo of the Delete", h.Undo, api.OK, a, nil, []tree.Doc{e}},
		{"Redo of the Delete", h.Redo, api.OK, e, []tree.Doc{a}, nil},
	} {
		same(t, step.what, step.do(), step.fault)
		holds(t, step.what, h, step.doc, step.past, step.future)
	}
}

// An edit that makes the same document is one, and takes the future too.
func TestAnEditThatChangesNothing(t *testing.T) {
	a := sheet(t, 2, 2)
	b, _ := a.Do(look(1))
	h := hist.Open(a)
	h.Do(look(1))
	h.Undo()
	same(t, "to show what is shown", h.Do(tree.Edit{Kind: 6, ID: 1}), api.OK)
	holds(t, "to show what is shown", h, a, []tree.Doc{a}, nil)
	same(t, "the edit again", h.Do(look(1)), api.OK)
	holds(t, "the edit again", h, b, []tree.Doc{a, a}, nil)
	same(t, "the edit again", h.Do(look(1)), api.OK)
	holds(t, "the edit again", h, b, []tree.Doc{a, a, b}, nil)
}

// refused are edits that can't be done of rich, with their errors.
func refused() map[api.Errno][]tree.Edit {
	return map[api.Errno][]tree.Edit{
		api.ErrKind:  {{}, {Kind: 10, ID: 1}, {Kind: -1}, {Kind: math.MaxInt, ID: 1}, {Kind: 1, N: 3}, paint(2, 0, 0, 1, 1, red), {Kind: 9, ID: 1}},
		api.ErrLimit: {{Kind: 1}, {Kind: 7, ID: 1}, paint(1, -32769, 0, 1, 1, red)},
		api.ErrPlace: {{Kind: 1, N: 1, At: 9}},
		api.ErrId:    {{Kind: 2, ID: 99}, {Kind: 2}, paint(99, 0, 0, 1, 1, red)},
		api.ErrCycle: {{Kind: 3, ID: 2, To: 2}},
		api.ErrForm:  {paint(1, 0, 0, 1, 1, 0xffffff00), {Kind: 4, ID: 1}},
		api.ErrValue: {look(256), {Kind: 6, ID: 1, N: 2}, {Kind: 9, ID: 3, N: 3}},
		api.ErrFlat:  {{Kind: 8, ID: 1}},
	}
}

// What is refused leaves the document, the past and the future, whichever there are.
func TestRefused(t *testing.T) {
	h := hist.Open(rich(t))
	for past := range 3 {
		for future := range 3 {
			for range past + future {
				same(t, "Do", h.Do(look(past)), api.OK)
			}
			for range future {
				same(t, "Undo", h.Undo(), api.OK)
			}
			before := told(h.State())
			for fault, edits := range refused() {
				for _, e := range edits {
					same(t, told(e), h.Do(e), fault)
				}
			}
			same(t, "the state behind what is refused", told(h.State()), before)
			same(t, "the future", len(h.State().Future), future)
		}
	}
}

// As many Undos as there were edits lead back, and as many Redos forward.
func TestBackAndForward(t *testing.T) {
	p := newPair(newDoc(t, 5, 4))
	p.do(t, everyEdit()...)
	edits := len(everyEdit())
	for range 3 {
		for i := range edits {
			p.alike(t)
			same(t, "Undo", p.hist.Undo(), api.OK)
			p.plain.step(-1)
			same(t, "the past", len(p.hist.State().Past), edits-1-i)
		}
		same(t, "the first document", told(p.hist.Doc()), told(newDoc(t, 5, 4)))
		p.undo(t)
		for i := range edits {
			p.alike(t)
			same(t, "Redo", p.hist.Redo(), api.OK)
			p.plain.step(1)
			same(t, "the future", len(p.hist.State().Future), edits-1-i)
		}
		same(t, "the last document", told(p.hist.Doc()), told(newDoc(t, 5, 4, everyEdit()...)))
		p.redo(t)
	}
}

// There is no bound to what can be taken back.
func TestManyEdits(t *testing.T) {
	const edits = 3000
	h := hist.Open(sheet(t, 1, 1))
	for i := range edits {
		same(t, "Do", h.Do(look(i%256)), api.OK)
	}
	h = hist.Restore(h.State())
	for i := range edits {
		l, _ := h.Doc().Find(1)
		same(t, "Opacity", l.Opacity, (edits-1-i)%256)
		same(t, "Undo", h.Undo(), api.OK)
	}
	same(t, "the first", told(h.State().Doc), told(sheet(t, 1, 1)))
	same(t, "Undo of nothing", h.Undo(), api.ErrNothing)
	for i := range edits {
		same(t, "Redo", h.Redo(), api.OK)
		l, _ := h.Doc().Find(1)
		same(t, "Opacity", l.Opacity, i%256)
	}
	same(t, "Redo of nothing", h.Redo(), api.ErrNothing)
}

// A history may be restored with what it had, and goes on as the other one does.
func TestRestore(t *testing.T) {
	a, b, c := sheet(t, 2, 2), rich(t), newDoc(t, 9, 1, tree.Edit{Kind: 1, N: 1})
	for _, s := range []hist.State{
		{}, {Doc: a}, {Doc: a, Past: []tree.Doc{b}}, {Doc: a, Future: []tree.Doc{b}},
		{Doc: a, Past: []tree.Doc{a, b, c}, Future: []tree.Doc{c, c, a, b}}, {Doc: b, Past: []tree.Doc{}, Future: []tree.Doc{b, b}},
		{Doc: b, Past: []tree.Doc{c, c, c}},
	} {
		h := hist.Restore(s)
		same(t, "State", told(h.State()), told(s))
		same(t, "Doc", told(h.Doc()), told(s.Doc))
		for i := len(s.Past) - 1; i >= 0; i-- {
			same(t, "Undo", h.Undo(), api.OK)
			same(t, "what it leads to", told(h.Doc()), told(s.Past[i]))
		}
		same(t, "Undo of nothing", h.Undo(), api.ErrNothing)
		h = hist.Restore(s)
		for i := len(s.Future) - 1; i >= 0; i-- {
			same(t, "Redo", h.Redo(), api.OK)
			same(t, "what it leads to", told(h.Doc()), told(s.Future[i]))
		}
		same(t, "Redo of nothing", h.Redo(), api.ErrNothing)
	}
}

// An edit behind Restore is pushed behind the past that was restored.
func TestRestoredGoesOn(t *testing.T) {
	a := sheet(t, 2, 2)
	b, _ := a.Do(look(1))
	c, _ := b.Do(look(2))
	d, _ := b.Do(tree.Edit{Kind: 8, ID: 1, N: 1, Map: affine.Map{one, 0, 9, one, 0, 0}})
	h := hist.Restore(hist.State{Doc: b, Past: []tree.Doc{c, a}, Future: []tree.Doc{a, c}})
	same(t, "Redo", h.Redo(), api.OK)
	holds(t, "Redo", h, c, []tree.Doc{c, a, b}, []tree.Doc{a})
	same(t, "Undo", h.Undo(), api.OK)
	holds(t, "Undo", h, b, []tree.Doc{c, a}, []tree.Doc{a, c})
	same(t, "Do", h.Do(tree.Edit{Kind: 8, ID: 1, N: 1, Map: affine.Map{one, 0, 9, one, 0, 0}}), api.OK)
	holds(t, "Do", h, d, []tree.Doc{c, a, b}, nil)
}
