package live_test

import (
	"testing"

	"scumble/affine"
	"scumble/api"
	"scumble/tree"
)

// draw is a row of numbers that looks without a rule, alike at each run.
type draw struct{ state uint64 }

func (d *draw) next(n int) int {
	d.state = d.state*6364136223846793005 + 1442695040888963407
	return int(d.state>>20) % n
}

// from is a number from one to another.
func (d *draw) from(least int, most int) int { return least + d.next(most-least+1) }

// of is one of these.
func of[T any](d *draw, things ...T) T { return things[d.next(len(things))] }

func (d *draw) pixel() int {
	a := of(d, 255, 255, 0, d.from(0, 255))
	return d.from(0, a)<<24 | d.from(0, a)<<16 | d.from(0, a)<<8 | a
}

// edit is an edit of a document of this many layers, which may be refused.
func (d *draw) edit(layers int) tree.Edit {
	e := tree.Edit{
		Kind: of(d, 1, 1, 2, 3, 3, 4, 4, 4, 4, 4, 4, 4, 4, 5, 6, 6, 6, 7, 8, 9, 9, 9), ID: d.from(1, layers+1), To: of(d, 0, d.from(0, layers)),
		At: of(d, -1, -1, 0, 1), N: of(d, 0, 0, 1, 1, 2), X: d.from(-20, 50), Y: d.from(-20, 40), W: d.from(1, 50), H: d.from(1, 40),
		Map: of(d, affine.One(), affine.One(), affine.Map{one, 0, 0, one, d.from(-9, 9) * one, d.from(-9*one, 9*one)}, affine.Map{0, one, one, 0, 0, one}),
	}
	switch e.Kind {
	case 4:
		e.W, e.H = of(d, 1, 2, e.W), of(d, 1, 3, e.H)
		for range e.W * e.H {
			e.P = append(e.P, d.pixel())
		}
	case 5:
		e.N, e.M = of(d, 255, d.from(0, 255)), of(d, 0, d.from(0, 11))
	case 6:
		e.N = of(d, 0, 0, 0, 1)
	case 7:
		e.Shape = block(d.from(-5, 30), d.from(-5, 30), d.from(1, 30), d.from(1, 30))
	case 9:
		e.N = of(d, 2, 3)
		e.Params = [][]int{{}, {d.from(0, 255)}}[e.N-2]
	}
	return e
}

// step does something to both of a pair; most often it is an edit, and then a Read.
func (d *draw) step(t *testing.T, p pair, others []tree.Doc) (kind int, fault api.Errno) {
	doc := p.plain.doc
	if d.next(40) == 0 {
		p.set(t, of(d, append(others, doc)...))
		return 0, api.OK
	}
	e := d.edit(doc.Next - 1)
	_, fault = doc.Do(e)
	p.do(t, e)
	return e.Kind, fault
}

// look reads a rectangle, which may lie outside.
func (d *draw) look(t *testing.T, p pair) {
	doc := p.plain.doc
	if d.next(4) == 0 {
		p.whole(t)
		return
	}
	x, y := d.from(0, doc.W), d.from(0, doc.H)
	p.read(t, x, y, d.from(0, doc.W-x), d.from(0, doc.H-y))
	p.read(t, d.from(-1, doc.W), d.from(-1, doc.H), d.from(-1, doc.W), d.from(-1, doc.H))
}

// Whatever is done and read, a Read is what layer 12 makes of the document, and lays what
// the chapter's words say.
func TestDrawnScripts(t *testing.T) {
	done := map[int]int{}
	for seed := range 200 {
		drawn := &draw{uint64(seed)}
		w, h := drawn.from(1, 50), drawn.from(1, 40)
		others := []tree.Doc{sheet(t, drawn.from(1, 50), drawn.from(1, 40)), newDoc(t, w, h), rich(t), rich(t, hide(2))}
		p := newPair(newDoc(t, w, h))
		for range 80 {
			kind, fault := drawn.step(t, p, others)
			if fault == api.OK {
				done[kind]++
			}
			p.alike(t)
			for range drawn.next(3) {
				drawn.look(t, p)
			}
		}
		p.whole(t)
		same(t, "again", p.whole(t), 0)
	}
	for kind := range 10 {
		if done[kind] < 100 {
			t.Error("too few of the kind", kind)
		}
	}
}
