package hist_test

import (
	"testing"

	"scumble/affine"
	"scumble/api"
	"scumble/tree"
)

// everyEdit is a script with each kind of edit, of an empty document.
func everyEdit() []tree.Edit {
	return []tree.Edit{
		{Kind: 1, W: 3, H: 2, At: -1}, {Kind: 1, N: 1, At: -1}, {Kind: 1, N: 2, At: -1}, paint(1, 0, 0, 3, 2, red), paint(1, 1, 1, 5, 5, faint),
		{Kind: 1, N: 1, To: 2}, {Kind: 1, To: 4, W: 2, H: 2}, {Kind: 3, ID: 1, To: 4, At: -1}, {Kind: 5, ID: 1, N: 99, M: 3},
		{Kind: 6, ID: 4, N: 1}, {Kind: 6, ID: 4}, {Kind: 7, ID: 1, Shape: block(0, 0, 2, 2)}, {Kind: 7, ID: 2, N: 1, Shape: block(0, 0, 2, 2)},
		{Kind: 7, ID: 2, N: 2}, {Kind: 8, ID: 5, N: 1, Map: affine.Map{0, one, one, 0, 0, one}}, {Kind: 9, ID: 3, N: 3, Params: []int{200}},
		{Kind: 9, ID: 3, N: 1, Params: []int{0, 9, 200, 8}}, {Kind: 1, N: 1, At: 0}, {Kind: 3, ID: 2, To: 6}, {Kind: 2, ID: 5}, paint(1, 0, 0, 1, 1, blue),
	}
}

// rich is a document with all that layers may have.
func rich(t *testing.T) tree.Doc {
	t.Helper()
	return newDoc(t, 5, 4, everyEdit()...)
}

// draw is a row of numbers that looks without a rule, alike at each run.
type draw struct{ state uint64 }

func (d *draw) next(n int) int {
	d.state = d.state*6364136223846793005 + 1442695040888963407
	return int(d.state>>20) % n
}

// from is a number from one to another.
func (d *draw) from(least int, most int) int { return least + d.next(most-least+1) }

// of is one of these.
func of[T any](d *draw, things ...T) T { return things[d.next(len(things))] }

// edit is an edit of a document of this many layers, which may be refused.
func (d *draw) edit(layers int) tree.Edit {
	e := tree.Edit{
		Kind: of(d, 1, 1, 2, 3, 3, 4, 4, 4, 4, 4, 5, 6, 7, 7, 8, 9, 9, 9), ID: d.from(1, layers+1), To: of(d, 0, d.from(0, layers)),
		At: of(d, -1, -1, 0, 1), N: of(d, 0, 0, 1, 1, 2), X: d.from(-2, 4), Y: d.from(-2, 4), W: d.from(1, 4), H: d.from(1, 4),
		Map: of(d, affine.One(), affine.Map{one, 0, 0, one, d.from(-9, 9) * one, 7}, affine.Map{0, one, one, 0, 0, one}),
	}
	switch e.Kind {
	case 4:
		for range e.W * e.H {
			e.P = append(e.P, of(d, 0, red, blue, faint))
		}
	case 5:
		e.N, e.M = d.from(0, 255), of(d, 0, 0, d.from(0, 11))
	case 7:
		e.Shape = block(d.from(-2, 3), d.from(-2, 3), d.from(1, 4), d.from(1, 4))
	case 9:
		e.N = of(d, 2, 3)
		e.Params = [][]int{{}, {d.from(0, 255)}}[e.N-2]
	}
	return e
}

// step does something to both of a pair, and tells which.
func (d *draw) step(t *testing.T, p *pair) string {
	switch d.next(9) {
	case 0, 1:
		p.undo(t)
		return "Undo"
	case 2, 3:
		p.redo(t)
		return "Redo"
	case 4:
		if d.next(4) == 0 {
			p.restore()
			return "Restore"
		}
	}
	e := d.edit(p.plain.docs[p.plain.at].Next - 1)
	ahead := p.plain.at
	p.do(t, e)
	if p.plain.at == ahead {
		return "refused"
	}
	return "Do"
}

// Whatever is done, taken back, done again and restored, the state is what the chapter's
// words say.
func TestDrawnScripts(t *testing.T) {
	steps := map[string]int{}
	for seed := range 150 {
		d := &draw{uint64(seed)}
		p := newPair(newDoc(t, d.from(1, 5), d.from(1, 5), everyEdit()[:d.next(4)]...))
		first := told(p.plain.docs[0])
		for range 80 {
			steps[d.step(t, p)]++
			p.alike(t)
		}
		last, edits := told(p.hist.State()), p.plain.at
		for range edits {
			same(t, "Undo", p.hist.Undo(), api.OK)
		}
		same(t, "the first document", told(p.hist.Doc()), first)
		same(t, "no past", len(p.hist.State().Past), 0)
		for range edits {
			same(t, "Redo", p.hist.Redo(), api.OK)
		}
		same(t, "the last state", told(p.hist.State()), last)
	}
	for _, what := range []string{"Do", "refused", "Undo", "Redo", "Restore"} {
		if steps[what] < 100 {
			t.Error("too few:", what)
		}
	}
}
