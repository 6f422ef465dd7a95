package live_test

import (
	"fmt"
	"slices"
	"testing"

	"scumble/affine"
	"scumble/api"
	"scumble/lasso"
	"scumble/live"
	"scumble/render"
	"scumble/tree"
)

// one is 1 in a map's numbers.
const one = 65536

const (
	red   = 0xff0000ff
	blue  = 0x0000ffff
	faint = 0x20408080
)

func same[T comparable](t *testing.T, what string, got T, should T) {
	t.Helper()
	if got != should {
		t.Errorf("%s: %v, not %v", what, got, should)
	}
}

// told is all of a document as a text, in which nil and empty lists are one.
func told(d tree.Doc) string { return fmt.Sprintf("%+v", d) }

// newDoc is a document behind edits that may be done.
func newDoc(t *testing.T, w int, h int, edits ...tree.Edit) tree.Doc {
	t.Helper()
	d, fault := tree.New(w, h)
	same(t, "New", fault, api.OK)
	for _, e := range edits {
		next, fault := d.Do(e)
		if fault != api.OK {
			t.Fatalf("%+v: %d", e, fault)
		}
		d = next
	}
	return d
}

// paint is a Paint of one pixel all over a rectangle.
func paint(id int, x int, y int, w int, h int, pixel int) tree.Edit {
	return tree.Edit{Kind: 4, ID: id, X: x, Y: y, W: w, H: h, P: slices.Repeat([]int{pixel}, w*h)}
}

// block is the shape of a rectangle.
func block(x int, y int, w int, h int) []lasso.Point {
	return []lasso.Point{{X: x, Y: y}, {X: x + w, Y: y}, {X: x + w, Y: y + h}, {X: x, Y: y + h}}
}

// plainLive is the chapter's words told again, place by place: the document, and the
// tiles that were laid since it was opened or set, or something may be seen in them.
type plainLive struct {
	doc  tree.Doc
	laid map[[2]int]bool
	all  int
}

func newPlain(d tree.Doc) *plainLive { return &plainLive{doc: d, laid: map[[2]int]bool{}} }

func (p *plainLive) set(d tree.Doc) { p.doc, p.laid = d, map[[2]int]bool{} }

func (p *plainLive) read(x int, y int, w int, h int) ([]int, api.Errno) {
	pixels, fault := render.Region(p.doc, x, y, w, h)
	if fault != api.OK {
		return nil, fault
	}
	for row := y; row < y+h; row++ {
		for column := x; column < x+w; column++ {
			at := [2]int{column / 16, row / 16}
			if !p.laid[at] {
				p.laid[at] = true
				p.all++
			}
		}
	}
	return pixels, api.OK
}

func (p *plainLive) do(e tree.Edit) api.Errno {
	ahead := p.doc
	behind, fault := ahead.Do(e)
	if fault != api.OK {
		return fault
	}
	p.doc = behind
	id := e.ID
	if e.Kind == 1 {
		id = ahead.Next
	}
	if !isShown(ahead, id) && !isShown(behind, id) {
		return api.OK
	}
	l, _ := behind.Find(id)
	if e.Kind != 4 || l.Map != (affine.Map{one, 0, 0, one, 0, 0}) {
		p.laid = map[[2]int]bool{}
		return api.OK
	}
	for y := max(e.Y, 0); y < min(e.Y+e.H, l.H, behind.H); y++ {
		for x := max(e.X, 0); x < min(e.X+e.W, l.W, behind.W); x++ {
			delete(p.laid, [2]int{x / 16, y / 16})
		}
	}
	return api.OK
}

// isShown tells whether there is a layer, and it is neither hidden nor within one that is.
func isShown(d tree.Doc, id int) bool {
	l, ok := d.Find(id)
	for ok && !l.Hidden {
		id, _, _ = d.Parent(id)
		if id == 0 {
			return true
		}
		l, ok = d.Find(id)
	}
	return false
}

// pair is a live document and the plain one, which should be alike.
type pair struct {
	live  *live.Live
	plain *plainLive
}

func newPair(d tree.Doc) pair { return pair{live.Open(d), newPlain(d)} }

func (p pair) do(t *testing.T, edits ...tree.Edit) {
	t.Helper()
	for _, e := range edits {
		before := p.plain.doc
		got, should := p.live.Do(e), p.plain.do(e)
		if got != should {
			t.Fatalf("%+v\nof %s:\n%d, not %d", e, told(before), got, should)
		}
		same(t, "Laid behind an edit", p.live.Laid(), p.plain.all)
	}
}

func (p pair) set(t *testing.T, d tree.Doc) {
	t.Helper()
	p.live.Set(d)
	p.plain.set(d)
	same(t, "Laid behind Set", p.live.Laid(), p.plain.all)
}

// read tells how many tiles were laid by it.
func (p pair) read(t *testing.T, x int, y int, w int, h int) int {
	t.Helper()
	ahead := p.live.Laid()
	got, fault := p.live.Read(x, y, w, h)
	should, e := p.plain.read(x, y, w, h)
	if fault != e || !slices.Equal(got, should) {
		t.Fatalf("Read(%d, %d, %d, %d) of %s:\n%x, %d, not\n%x, %d", x, y, w, h, told(p.plain.doc), got, fault, should, e)
	}
	if p.live.Laid() != p.plain.all {
		t.Fatalf("Laid behind Read(%d, %d, %d, %d) of %s:\n%d, not %d", x, y, w, h, told(p.plain.doc), p.live.Laid(), p.plain.all)
	}
	return p.live.Laid() - ahead
}

// whole reads all.
func (p pair) whole(t *testing.T) int {
	t.Helper()
	return p.read(t, 0, 0, p.plain.doc.W, p.plain.doc.H)
}

// alike tells whether both have one document.
func (p pair) alike(t *testing.T) {
	t.Helper()
	if got := p.live.Doc(); !got.Same(p.plain.doc) {
		t.Fatalf("Doc: %s, not %s", told(got), told(p.plain.doc))
	}
}
