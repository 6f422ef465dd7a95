package tree_test

import (
	"fmt"
	"slices"

	"scumble/affine"
	"scumble/api"
	"scumble/lasso"
	"scumble/pix"
	"scumble/tree"
)

// one is 1 in a map's numbers.
const one = 65536

// draw is a row of numbers that looks without a rule, alike at each run.
type draw struct{ state uint64 }

func (d *draw) next(n int) int {
	d.state = d.state*6364136223846793005 + 1442695040888963407
	return int(d.state>>20) % n
}

// from is a number from one to another.
func (d *draw) from(least int, most int) int { return least + d.next(most-least+1) }

// of is one of these.
func of[T any](d *draw, things ...T) T { return things[d.next(len(things))] }

// told is all of a document as a text, in which nil and empty lists are one.
func told(d tree.Doc) string { return fmt.Sprintf("%+v", d) }

// plainDoc is the chapter's words told again: the layers lie beside one another, and
// each tells in which group it is. The numbers in a group stand in a list.
type plainDoc struct {
	w, h, next int
	layers     map[int]*plainLayer
	kids       map[int][]int
}

// plainLayer has its pixels by their places; its own list of Kids stays empty.
type plainLayer struct {
	tree.Layer
	in     int
	pixels map[[2]int]int
}

func newPlain(w int, h int) *plainDoc {
	return &plainDoc{w, h, 1, map[int]*plainLayer{}, map[int][]int{}}
}

// doc is the document that is told.
func (p *plainDoc) doc() tree.Doc {
	return tree.Doc{W: p.w, H: p.h, Next: p.next, Kids: p.kidsOf(0)}
}

func (p *plainDoc) kidsOf(id int) []tree.Layer {
	var kids []tree.Layer
	for _, k := range p.kids[id] {
		l := p.layers[k]
		told := l.Layer
		for i := range l.W * l.H {
			told.P = append(told.P, l.pixels[[2]int{i % l.W, i / l.W}])
		}
		told.Kids = p.kidsOf(k)
		kids = append(kids, told)
	}
	return kids
}

// depth is in how many groups a layer is, the root among them.
func (p *plainDoc) depth(id int) int {
	n := 0
	for id != 0 {
		id = p.layers[id].in
		n++
	}
	return n
}

// within tells whether a layer is this one, or in it, or in a group in it.
func (p *plainDoc) within(id int, outer int) bool {
	for id != 0 && id != outer {
		id = p.layers[id].in
	}
	return id == outer
}

func (p *plainDoc) isLayer(id int) bool { return p.layers[id] != nil }

func (p *plainDoc) isKind(id int, kind int) bool {
	if id == 0 {
		return kind == 1
	}
	return p.layers[id].Kind == kind
}

// rule is an error, and when it is answered.
type rule struct {
	e    api.Errno
	when func() bool
}

// first is the error of the first rule that is met.
func first(rules ...rule) api.Errno {
	for _, r := range rules {
		if r.when() {
			return r.e
		}
	}
	return api.OK
}

// no are the errors of a number that is none of these.
func no(e api.Errno, n int, least int, most int) rule {
	return rule{e, func() bool { return n < least || n > most }}
}

// isPainted tells whether P are pixels as many as it takes.
func isPainted(e tree.Edit) bool {
	for _, p := range e.P {
		if p < 0 || p > 0xffffffff || p>>24 > p&255 || p>>16&255 > p&255 || p>>8&255 > p&255 {
			return false
		}
	}
	return e.W > 0 && e.H > 0 && e.W <= 32768 && e.H <= 32768 && len(e.P) == e.W*e.H
}

func noArea(w int, h int) bool {
	return w < 1 || h < 1 || w > 32768 || h > 32768 || w*h > 4194304
}

// do does an edit, if it isn't refused.
func (p *plainDoc) do(e tree.Edit) api.Errno {
	noID := rule{api.ErrId, func() bool { return !p.isLayer(e.ID) }}
	noTo := rule{api.ErrId, func() bool { return !p.isLayer(e.To) && e.To != 0 }}
	noGroup := rule{api.ErrKind, func() bool { return !p.isKind(e.To, 1) }}
	// The root is there, but it is a group.
	notThere := rule{api.ErrId, func() bool { return !p.isLayer(e.ID) && e.ID != 0 }}
	notKind := func(kind int) rule {
		return rule{api.ErrKind, func() bool { return !p.isKind(e.ID, kind) }}
	}
	var fault api.Errno
	switch e.Kind {
	case 1:
		fault = first(no(api.ErrKind, e.N, 0, 2), rule{api.ErrLimit, func() bool { return e.N == 0 && noArea(e.W, e.H) }},
			noTo, noGroup, no(api.ErrPlace, e.At, -1, len(p.kids[e.To])),
			rule{api.ErrLimit, func() bool { return len(p.layers) == 4096 || p.depth(e.To) == 64 }})
	case 2:
		fault = first(noID)
	case 3:
		fault = first(noID, noTo, noGroup, rule{api.ErrCycle, func() bool { return p.within(e.To, e.ID) }},
			rule{api.ErrPlace, func() bool { return e.At < -1 || e.At > len(without(p.kids[e.To], e.ID)) }},
			rule{api.ErrLimit, func() bool { return p.tooDeep(e.ID, e.To) }})
	case 4:
		fault = first(notThere, notKind(0), rule{api.ErrForm, func() bool { return !isPainted(e) }},
			no(api.ErrLimit, e.X, -32768, 32768), no(api.ErrLimit, e.Y, -32768, 32768))
	case 5:
		fault = first(noID, no(api.ErrValue, e.N, 0, 255), no(api.ErrValue, e.M, 0, 11),
			rule{api.ErrKind, func() bool { return p.isKind(e.ID, 2) && e.M != 0 }})
	case 6:
		fault = first(noID, no(api.ErrValue, e.N, 0, 1))
	case 7:
		_, ofShape := lasso.Within(e.Shape, 0, 0)
		fault = first(noID, no(api.ErrValue, e.N, 0, 2), rule{ofShape, func() bool { return e.N != 2 && ofShape != api.OK }})
	case 8:
		_, ofMap := e.Map.Back()
		fault = first(notThere, notKind(0), no(api.ErrValue, e.N, 0, 1), rule{ofMap, func() bool { return ofMap != api.OK }})
	case 9:
		_, ok := pix.Table(e.N, e.Params)
		fault = first(notThere, notKind(2), rule{api.ErrValue, func() bool { return !ok }})
	default:
		fault = api.ErrKind
	}
	if fault == api.OK {
		p.done(e)
	}
	return fault
}

// tooDeep tells whether any layer that is moved along would stand deeper than 64.
func (p *plainDoc) tooDeep(id int, to int) bool {
	for k := range p.layers {
		if p.within(k, id) && p.depth(to)+p.depth(k)-p.depth(p.layers[id].in) > 64 {
			return true
		}
	}
	return false
}

func without(numbers []int, n int) []int {
	return slices.DeleteFunc(slices.Clone(numbers), func(k int) bool { return k == n })
}

// stand lets a layer stand in a group at a place.
func (p *plainDoc) stand(id int, to int, at int) {
	kids := p.kids[to]
	if at < 0 {
		at = len(kids)
	}
	p.kids[to] = slices.Concat(kids[:at], []int{id}, kids[at:])
	p.layers[id].in = to
}

// done does an edit that isn't refused.
func (p *plainDoc) done(e tree.Edit) {
	l := p.layers[e.ID]
	switch e.Kind {
	case 1:
		l = &plainLayer{Layer: tree.Layer{ID: p.next, Kind: e.N, Opacity: 255, Map: affine.Map{one, 0, 0, one, 0, 0}, Table: 2}}
		if e.N == 0 {
			l.W, l.H, l.pixels = e.W, e.H, map[[2]int]int{}
		}
		p.layers[p.next] = l
		p.stand(p.next, e.To, e.At)
		p.next++
	case 2:
		p.kids[l.in] = without(p.kids[l.in], e.ID)
		for _, k := range p.numbers() {
			if p.within(k, e.ID) {
				defer delete(p.layers, k)
			}
		}
	case 3:
		p.kids[l.in] = without(p.kids[l.in], e.ID)
		p.stand(e.ID, e.To, e.At)
	case 4:
		for i, pixel := range e.P {
			l.pixels[[2]int{e.X + i%e.W, e.Y + i/e.W}] = pixel
		}
	case 5:
		l.Opacity, l.Mode = e.N, e.M
	case 6:
		l.Hidden = e.N == 1
	case 7:
		l.Mask = p.mask(e)
	case 8:
		l.Map, l.Smooth = e.Map, e.N == 1
	case 9:
		l.Table, l.Params = e.N, slices.Clone(e.Params)
	}
}

// mask is asked pixel by pixel.
func (p *plainDoc) mask(e tree.Edit) []byte {
	var mask []byte
	for i := range p.w * p.h {
		in, _ := lasso.Within(e.Shape, i%p.w, i/p.w)
		if e.N == 2 {
			return nil
		}
		if in == (e.N == 0) {
			mask = append(mask, 255)
		} else {
			mask = append(mask, 0)
		}
	}
	return mask
}

// numbers are those of all layers.
func (p *plainDoc) numbers() []int {
	var numbers []int
	for id := range p.layers {
		numbers = append(numbers, id)
	}
	slices.Sort(numbers)
	return numbers
}
