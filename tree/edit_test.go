package tree_test

import (
	"math"
	"slices"
	"testing"

	"scumble/affine"
	"scumble/api"
	"scumble/tree"
)

// ask is a thing that an edit may be refused for: what makes it so, and the error.
type ask struct {
	e    api.Errno
	with func(e *tree.Edit)
}

// inOrder tries each edit that is refused for some of these things: the error is the one
// of the first. Things that can't come together have the same place in the order.
func inOrder(t *testing.T, d tree.Doc, e tree.Edit, order ...[]ask) {
	t.Helper()
	tried(t, d, e, api.OK, order)
}

func tried(t *testing.T, d tree.Doc, e tree.Edit, should api.Errno, order [][]ask) {
	t.Helper()
	if len(order) == 0 {
		answers(t, d, e, should)
		return
	}
	tried(t, d, e, should, order[1:])
	for _, a := range order[0] {
		other, fault := e, should
		a.with(&other)
		if fault == api.OK {
			fault = a.e
		}
		tried(t, d, other, fault, order[1:])
	}
}

// each is an ask for each of these numbers.
func each(e api.Errno, with func(e *tree.Edit, n int), numbers ...int) []ask {
	var all []ask
	for _, n := range numbers {
		all = append(all, ask{e, func(e *tree.Edit) { with(e, n) }})
	}
	return all
}

func id(e *tree.Edit, n int) { e.ID = n }
func to(e *tree.Edit, n int) { e.To = n }
func at(e *tree.Edit, n int) { e.At = n }
func nn(e *tree.Edit, n int) { e.N = n }
func mm(e *tree.Edit, n int) { e.M = n }

// noLayers are numbers that no layer of the document rich has.
var noLayers = []int{5, -1, math.MinInt, math.MaxInt}

func orRoot(numbers []int) []int { return append([]int{0}, numbers...) }

func TestOtherKinds(t *testing.T) {
	for _, kind := range append([]int{0, 10, 11, -9}, beyond...) {
		for id := range 5 {
			answers(t, rich(t), tree.Edit{Kind: kind, ID: id, W: 1, H: 1, P: []int{0}}, api.ErrKind)
		}
	}
	answers(t, newDoc(t, 1, 1), tree.Edit{}, api.ErrKind)
}

func TestAdd(t *testing.T) {
	for kind := range 3 {
		for at := -1; at <= 2; at++ {
			d := rich(t)
			e := tree.Edit{Kind: 1, ID: 2, To: 1, At: at, N: kind, M: 5, X: 7, W: 2, H: 3, P: []int{1}, Shape: triangle(), Map: affine.Map{}, Params: []int{3}}
			d = did(t, d, e)
			same(t, "Next", d.Next, 6)
			same(t, "Right", d.Right(), true)
			parent, place, _ := d.Parent(5)
			same(t, "Parent", [2]int{parent, place}, [2]int{1, []int{2, 0, 1, 2}[at+1]})
			should := tree.Layer{ID: 5, Kind: kind, Opacity: 255, Map: affine.One(), Table: 2}
			if kind == 0 {
				should.W, should.H, should.P = 2, 3, make([]int, 6)
			}
			l, _ := d.Find(5)
			same(t, "Add", told(tree.Doc{Kids: []tree.Layer{l}}), told(tree.Doc{Kids: []tree.Layer{should}}))
			same(t, "Count", d.Count(), 5)
		}
	}
}

func TestAddOfAllSizes(t *testing.T) {
	d := newDoc(t, 1, 1)
	for _, w := range append([]int{0, 1, 2, 128, 32768, 32769}, beyond...) {
		for _, h := range append([]int{0, 1, 2, 128, 129, 32768, 32769}, beyond...) {
			should := api.OK
			if noArea(w, h) {
				should = api.ErrLimit
			}
			answers(t, d, tree.Edit{Kind: 1, W: w, H: h}, should)
			for kind := 1; kind < 3; kind++ {
				d := did(t, d, tree.Edit{Kind: 1, N: kind, W: w, H: h})
				same(t, "the size of what is no raster", [2]int{d.Kids[0].W, d.Kids[0].H}, [2]int{})
			}
		}
	}
	answers(t, d, tree.Edit{Kind: 1, W: 2048, H: 2048}, api.OK)
	answers(t, d, tree.Edit{Kind: 1, W: 2049, H: 2048}, api.ErrLimit)
}

func TestAddIsRefused(t *testing.T) {
	sizes := []ask{
		{api.ErrLimit, func(e *tree.Edit) { e.W = 0 }}, {api.ErrLimit, func(e *tree.Edit) { e.H = -1 }},
		{api.ErrLimit, func(e *tree.Edit) { e.W, e.H = 32768, 129 }}, {api.ErrLimit, func(e *tree.Edit) { e.W, e.H = 32769, 1 }},
	}
	groups := slices.Concat(each(api.ErrId, to, noLayers...), each(api.ErrKind, to, 2, 3, 4))
	places := each(api.ErrPlace, at, append([]int{-2, 3, 4}, beyond[1:]...)...)
	kinds := each(api.ErrKind, nn, append([]int{3}, beyond...)...)
	inOrder(t, rich(t), tree.Edit{Kind: 1, To: 1, At: 2, W: 1, H: 1}, kinds, sizes, groups, places)
	inOrder(t, rich(t), tree.Edit{Kind: 1, To: 0, At: -1, N: 1}, groups, places)
	inOrder(t, rich(t), tree.Edit{Kind: 1, To: 0, At: 0, N: 2}, groups, places)
	// All is refused for the last thing where no layer more may be.
	full := rich(t)
	for full.Count() < 4096 {
		full.Kids = append(full.Kids, plainGroup(full.Next))
		full.Next++
	}
	same(t, "Right", full.Right(), true)
	for _, n := range []int{0, 1, 2} {
		answers(t, full, tree.Edit{Kind: 1, N: n, W: 1, H: 1}, api.ErrLimit)
		answers(t, full, tree.Edit{Kind: 1, N: n, W: 1, H: 1, To: 1}, api.ErrLimit)
		answers(t, full, tree.Edit{Kind: 1, N: n, W: 1, H: 1, To: 1, At: 3}, api.ErrPlace)
		answers(t, full, tree.Edit{Kind: 1, N: n, W: 1, H: 1, To: 3, At: 3}, api.ErrKind)
		answers(t, full, tree.Edit{Kind: 1, N: n, W: 1, H: 1, To: 9999}, api.ErrId)
	}
	less := did(t, full, tree.Edit{Kind: 2, ID: 4})
	answers(t, did(t, less, tree.Edit{Kind: 1, N: 1}), tree.Edit{Kind: 1, N: 1}, api.ErrLimit)
	answers(t, nested(t, 64), tree.Edit{Kind: 1, N: 1, To: 64, At: 1}, api.ErrPlace)
}

// As many layers as there may be, one by one.
func TestAddToTheLimit(t *testing.T) {
	d := newDoc(t, 1, 1)
	for n := range 4096 {
		d = did(t, d, tree.Edit{Kind: 1, N: n % 3, To: 0, At: n / 2, W: 1, H: 1})
	}
	same(t, "Count", d.Count(), 4096)
	same(t, "Next", d.Next, 4097)
	same(t, "Right", d.Right(), true)
	answers(t, d, tree.Edit{Kind: 1, N: 1}, api.ErrLimit)
	d = did(t, d, tree.Edit{Kind: 2, ID: 1})
	answers(t, did(t, d, tree.Edit{Kind: 1, N: 1}), tree.Edit{Kind: 1, N: 1}, api.ErrLimit)
}

// Numbers aren't given twice.
func TestDelete(t *testing.T) {
	d := did(t, rich(t), tree.Edit{Kind: 2, ID: 1}, tree.Edit{Kind: 1, N: 1, At: -1})
	same(t, "the next layer's number", d.Kids[1].ID, 5)
	same(t, "Count", d.Count(), 2)
	d = did(t, d, tree.Edit{Kind: 2, ID: 5}, tree.Edit{Kind: 2, ID: 4})
	same(t, "Delete of all", told(d), told(tree.Doc{W: 3, H: 2, Next: 6}))
	inOrder(t, rich(t), tree.Edit{Kind: 2, ID: 2}, each(api.ErrId, id, orRoot(noLayers)...))
	answers(t, d, tree.Edit{Kind: 2, ID: 5}, api.ErrId)
}

func TestMove(t *testing.T) {
	for _, of := range []struct {
		id, to, at int
		outer      [2]int
	}{
		{1, 0, 0, [2]int{0, 0}}, {1, 0, 1, [2]int{0, 1}}, {1, 0, -1, [2]int{0, 1}}, {2, 1, 1, [2]int{1, 1}}, {2, 1, -1, [2]int{1, 1}},
		{3, 1, 0, [2]int{1, 0}}, {4, 1, 2, [2]int{1, 2}}, {4, 1, 0, [2]int{1, 0}}, {2, 0, 2, [2]int{0, 2}}, {2, 0, 1, [2]int{0, 1}}, {4, 0, 0, [2]int{0, 0}},
	} {
		d := rich(t)
		l, _ := d.Find(of.id)
		next := did(t, d, tree.Edit{Kind: 3, ID: of.id, To: of.to, At: of.at})
		m, _ := next.Find(of.id)
		same(t, "Move", told(tree.Doc{Kids: []tree.Layer{m}}), told(tree.Doc{Kids: []tree.Layer{l}}))
		outer, place, _ := next.Parent(of.id)
		same(t, "Parent", [2]int{outer, place}, of.outer)
		same(t, "Count", next.Count(), 4)
		same(t, "Next", next.Next, 5)
	}
}

func TestMoveIsRefused(t *testing.T) {
	groups := slices.Concat(each(api.ErrId, to, noLayers...), each(api.ErrKind, to, 2, 3, 4))
	numbers := each(api.ErrId, id, orRoot(noLayers)...)
	// The place is counted when the layer is out.
	inOrder(t, rich(t), tree.Edit{Kind: 3, ID: 2, To: 1, At: 1}, numbers, groups, each(api.ErrPlace, at, append([]int{-2, 2, 3}, beyond[1:]...)...))
	inOrder(t, rich(t), tree.Edit{Kind: 3, ID: 4, To: 1, At: 2}, numbers, groups, each(api.ErrPlace, at, append([]int{-2, 3, 4}, beyond[1:]...)...))
	inOrder(t, rich(t), tree.Edit{Kind: 3, ID: 4, To: 0, At: 1}, numbers, groups, each(api.ErrPlace, at, append([]int{-2, 2}, beyond[1:]...)...))
	inOrder(t, rich(t), tree.Edit{Kind: 3, ID: 3, To: 0, At: 2}, numbers, groups, each(api.ErrPlace, at, append([]int{-2, 3}, beyond[1:]...)...))
	d := small(t)
	for _, within := range []int{1, 2, 3, 5} {
		for _, place := range []int{-1, 0, 9} {
			answers(t, d, tree.Edit{Kind: 3, ID: 1, To: within, At: place}, api.ErrCycle)
		}
	}
	answers(t, d, tree.Edit{Kind: 3, ID: 1, To: 4}, api.ErrKind)
	answers(t, d, tree.Edit{Kind: 3, ID: 4, To: 4}, api.ErrKind)
	answers(t, d, tree.Edit{Kind: 3, ID: 3, To: 5}, api.ErrCycle)
	answers(t, d, tree.Edit{Kind: 3, ID: 5, To: 5}, api.ErrCycle)
	answers(t, d, tree.Edit{Kind: 3, ID: 5, To: 2}, api.OK)
	answers(t, d, tree.Edit{Kind: 3, ID: 3, To: 2}, api.OK)
}

// What is within a layer is moved along, so that it may stand too deep.
func TestMoveToTheLimit(t *testing.T) {
	for height := 1; height <= 5; height++ {
		d := nested(t, 63)
		first := d.Next
		d = did(t, d, tree.Edit{Kind: 1, N: 1, At: -1})
		for n := 1; n < height; n++ {
			d = did(t, d, tree.Edit{Kind: 1, N: 1, To: d.Next - 1})
		}
		// Layers that stand less deep, on both sides of the deepest.
		if height > 1 {
			d = did(t, d, tree.Edit{Kind: 1, N: 2, To: first, At: 0}, tree.Edit{Kind: 1, N: 2, To: first, At: -1})
		}
		for deep := 55; deep <= 63; deep++ {
			should := api.OK
			if deep+height > 64 {
				should = api.ErrLimit
			}
			answers(t, d, tree.Edit{Kind: 3, ID: first, To: deep, At: -1}, should)
			answers(t, d, tree.Edit{Kind: 3, ID: first, To: deep, At: 7}, api.ErrPlace)
		}
	}
	d := nested(t, 64)
	answers(t, d, tree.Edit{Kind: 3, ID: 64, To: 63}, api.OK)
	answers(t, d, tree.Edit{Kind: 3, ID: 64, To: 0}, api.OK)
	d = did(t, d, tree.Edit{Kind: 1, N: 2, At: -1})
	answers(t, d, tree.Edit{Kind: 3, ID: 65, To: 64}, api.ErrLimit)
	answers(t, d, tree.Edit{Kind: 3, ID: 65, To: 63, At: 1}, api.OK)
}
