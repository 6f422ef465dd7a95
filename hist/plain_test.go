package hist_test

import (
	"fmt"
	"slices"
	"testing"

	"scumble/api"
	"scumble/hist"
	"scumble/lasso"
	"scumble/tree"
)

// one is 1 in a map's numbers.
const one = 65536

const (
	red   = 0xff0000ff
	blue  = 0x0000ffff
	faint = 0x20408080
)

func same[T comparable](t *testing.T, what string, got T, should T) {
	t.Helper()
	if got != should {
		t.Errorf("%s: %v, not %v", what, got, should)
	}
}

// told is all of a thing as a text, in which nil and empty lists are one.
func told(thing any) string { return fmt.Sprintf("%+v", thing) }

// newDoc is a document behind edits that may be done.
func newDoc(t *testing.T, w int, h int, edits ...tree.Edit) tree.Doc {
	t.Helper()
	d, fault := tree.New(w, h)
	same(t, "New", fault, api.OK)
	for _, e := range edits {
		next, fault := d.Do(e)
		if fault != api.OK {
			t.Fatalf("%+v: %d", e, fault)
		}
		d = next
	}
	return d
}

// paint is a Paint of one pixel all over a rectangle.
func paint(id int, x int, y int, w int, h int, pixel int) tree.Edit {
	return tree.Edit{Kind: 4, ID: id, X: x, Y: y, W: w, H: h, P: slices.Repeat([]int{pixel}, w*h)}
}

// look is an edit that may always be done, and tells itself from others by its number.
func look(n int) tree.Edit { return tree.Edit{Kind: 5, ID: 1, N: n} }

// block is the shape of a rectangle.
func block(x int, y int, w int, h int) []lasso.Point {
	return []lasso.Point{{X: x, Y: y}, {X: x + w, Y: y}, {X: x + w, Y: y + h}, {X: x, Y: y + h}}
}

// plainHist is the chapter's words told again: all documents in a row, and which one of
// them is the document.
type plainHist struct {
	docs []tree.Doc
	at   int
}

func newPlain(d tree.Doc) *plainHist { return &plainHist{docs: []tree.Doc{d}} }

func (p *plainHist) do(e tree.Edit) api.Errno {
	next, fault := p.docs[p.at].Do(e)
	if fault != api.OK {
		return fault
	}
	p.docs = append(p.docs[:p.at+1], next)
	p.at++
	return api.OK
}

// step goes on by one, or back by -1.
func (p *plainHist) step(by int) api.Errno {
	if p.at+by < 0 || p.at+by == len(p.docs) {
		return api.ErrNothing
	}
	p.at += by
	return api.OK
}

func (p *plainHist) state() hist.State {
	s := hist.State{Doc: p.docs[p.at], Past: p.docs[:p.at], Future: slices.Clone(p.docs[p.at+1:])}
	slices.Reverse(s.Future)
	return s
}

// pair is a history and the plain one, which should be alike.
type pair struct {
	hist  *hist.History
	plain *plainHist
}

func newPair(d tree.Doc) *pair { return &pair{hist.Open(d), newPlain(d)} }

func (p *pair) do(t *testing.T, edits ...tree.Edit) {
	t.Helper()
	for _, e := range edits {
		before := told(p.hist.Doc())
		got, should := p.hist.Do(e), p.plain.do(e)
		if got != should {
			t.Fatalf("%+v\nof %s:\n%d, not %d", e, before, got, should)
		}
	}
}

func (p *pair) undo(t *testing.T) {
	t.Helper()
	same(t, "Undo", p.hist.Undo(), p.plain.step(-1))
}

func (p *pair) redo(t *testing.T) {
	t.Helper()
	same(t, "Redo", p.hist.Redo(), p.plain.step(1))
}

func (p *pair) restore() { p.hist = hist.Restore(p.hist.State()) }

// alike tells whether both have one state.
func (p *pair) alike(t *testing.T) {
	t.Helper()
	should := p.plain.state()
	if got := told(p.hist.State()); got != told(should) {
		t.Fatalf("State: %s, not %s", got, told(should))
	}
	if got := told(p.hist.Doc()); got != told(should.Doc) {
		t.Fatalf("Doc: %s, not %s", got, told(should.Doc))
	}
}
