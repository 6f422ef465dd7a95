package pack_test

import (
	"bytes"
	"math"
	"slices"
	"testing"

	"scumble/affine"
	"scumble/api"
	"scumble/lasso"
	"scumble/pack"
	"scumble/tree"
)

// full is an edit of which no two numbers are alike, and its form, number by number.
func full() (tree.Edit, [][]byte) {
	e := tree.Edit{
		Kind: 1, ID: -2, To: 3, At: -4, N: 5, M: -6, X: 7, Y: -8, W: 9, H: -10, P: []int{11, -12, 64},
		Shape: []lasso.Point{{X: 13, Y: -14}, {X: -65, Y: 15}}, Map: affine.Map{16, -17, 18, -19, 20, 300}, Params: []int{-21, 22},
	}
	return e, [][]byte{
		{2}, {3}, {6}, {7}, {10}, {11}, {14}, {15}, {18}, {19},
		{6}, {22}, {23}, {0x80, 1},
		{4}, {26}, {27}, {0x81, 1}, {30},
		{32}, {33}, {36}, {37}, {40}, {0xd8, 4},
		{4}, {41}, {44},
	}
}

// The numbers of full's form that say how many things a list has.
var fullCounts = []int{10, 14, 25}

func TestEditByHand(t *testing.T) {
	e, numbers := full()
	form := slices.Concat(numbers...)
	same(t, "PutEdit", hex(pack.PutEdit(e)), hex(form))
	got, fault := pack.GetEdit(form)
	same(t, "GetEdit", fault, api.OK)
	same(t, "GetEdit", told(got), told(e))
	same(t, "PutEdit of nothing", hex(pack.PutEdit(tree.Edit{})), hex(zeros(19)))
	same(t, "GetEdit of nothing", readsEdit(t, zeros(19)), api.OK)
}

// roundTrip tells where an edit isn't written in its form, or read back.
func roundTrip(t *testing.T, e tree.Edit) {
	t.Helper()
	form := plainForm(e)
	if got := pack.PutEdit(e); !bytes.Equal(got, form) {
		t.Fatalf("%+v is written as %s, not %s", e, hex(got), hex(form))
	}
	got, fault := pack.GetEdit(form)
	if fault != api.OK || told(got) != told(e) {
		t.Fatalf("%s is read as %d, %+v, not %+v", hex(form), fault, got, e)
	}
}

// What an edit says needn't be an edit that can be done.
func TestAnyEdits(t *testing.T) {
	for _, e := range everyEdit() {
		roundTrip(t, e)
	}
	for _, n := range ends() {
		roundTrip(t, tree.Edit{Kind: n, ID: n, To: n, At: n, N: n, M: n, X: n, Y: n, W: n, H: n,
			P: []int{n, n}, Shape: []lasso.Point{{X: n, Y: n}}, Map: affine.Map{n, n, n, n, n, n}, Params: []int{n}})
	}
	for n := range 300 {
		roundTrip(t, tree.Edit{P: make([]int, n), Shape: make([]lasso.Point, 300-n), Params: make([]int, 2*n)})
	}
	roundTrip(t, tree.Edit{P: []int{}, Shape: []lasso.Point{}, Params: []int{}})
}

func TestGreatEdit(t *testing.T) {
	e := tree.Edit{Kind: 4, ID: 1, W: 2048, H: 2048, P: make([]int, 1<<22)}
	for i := range e.P {
		e.P[i] = 0xff*i<<7&0xffffff00 | 0xff
	}
	form := pack.PutEdit(e)
	got, fault := pack.GetEdit(form)
	same(t, "GetEdit", fault, api.OK)
	same(t, "the pixels", slices.Equal(got.P, e.P), true)
	same(t, "the form", bytes.Equal(pack.PutEdit(got), form), true)
	_, fault = pack.GetEdit(form[:len(form)-1])
	same(t, "GetEdit of a form that lacks a byte", fault, api.ErrEnd)
	_, fault = pack.GetEdit(append(form, 0))
	same(t, "GetEdit of a form with one more", fault, api.ErrForm)
}

func TestEditsThatLackBytes(t *testing.T) {
	_, numbers := full()
	form := slices.Concat(numbers...)
	for n := range form {
		same(t, "a form that lacks bytes", readsEdit(t, form[:n]), api.ErrEnd)
	}
}

func TestBytesBehindEdits(t *testing.T) {
	_, numbers := full()
	form := slices.Concat(numbers...)
	for _, behind := range [][]byte{{0}, {1}, {0x80}, {0x80, 0}, {0xff, 0xff}, form} {
		same(t, "a form with more behind it", readsEdit(t, slices.Concat(form, behind)), api.ErrForm)
	}
}

// with is full's form with another number at a place.
func with(at int, number []byte) []byte {
	_, numbers := full()
	numbers[at] = number
	return slices.Concat(numbers...)
}

// Each number of an edit, with one byte more than it needs, with too many, and with a
// last byte that would be left out.
func TestEachNumberOfEdits(t *testing.T) {
	_, numbers := full()
	for at, number := range numbers {
		longer := slices.Clone(number)
		longer[len(longer)-1] |= 0x80
		same(t, "a number with a byte too many", readsEdit(t, with(at, append(longer, 0))), api.ErrForm)
		same(t, "a number of eleven bytes", readsEdit(t, with(at, long(10, 1))), api.ErrForm)
		same(t, "a number with a tenth byte of 2", readsEdit(t, with(at, long(9, 2))), api.ErrForm)
		lacks := slices.Concat(slices.Concat(numbers[:at]...), longer)
		same(t, "a number that lacks bytes", readsEdit(t, lacks), api.ErrEnd)
		if !slices.Contains(fullCounts, at) {
			for _, n := range ends() {
				same(t, "another number", readsEdit(t, with(at, plainNumber(n))), api.OK)
			}
		}
	}
}

// left is how many bytes stand behind a number of full's form.
func left(at int) int {
	_, numbers := full()
	return len(slices.Concat(numbers[at+1:]...))
}

func TestListsOfEdits(t *testing.T) {
	for _, at := range fullCounts {
		for _, n := range []int{-1, -2, -64, -65, -1 << 31, -1 << 32, math.MinInt} {
			same(t, "a list below 0", readsEdit(t, with(at, plainNumber(n))), api.ErrForm)
		}
		for _, n := range []int{left(at) + 1, left(at) + 2, 1 << 31, 1 << 32, 1 << 61, math.MaxInt} {
			same(t, "a list with more than is left", readsEdit(t, with(at, plainNumber(n))), api.ErrEnd)
		}
		for n := range left(at) + 1 {
			readsEdit(t, with(at, plainNumber(n)))
		}
	}
}

// A list that says as many things as there are bytes left is read, until one is wrong.
func TestListsUpToTheEnd(t *testing.T) {
	for _, ahead := range []int{10, 11, 18} {
		for n := 2; n <= 20; n++ {
			begin := slices.Concat(zeros(ahead), plainNumber(n))
			same(t, "a list with a byte less", readsEdit(t, slices.Concat(begin, long(1, 0), zeros(n-2))[:len(begin)+n-1]), api.ErrEnd)
			same(t, "a list with a wrong number", readsEdit(t, slices.Concat(begin, long(1, 0), zeros(n-2))), api.ErrForm)
			same(t, "a list with a number that lacks bytes", readsEdit(t, slices.Concat(begin, zeros(n-1), long(1))), api.ErrEnd)
			should := api.ErrEnd
			if ahead == 18 {
				should = api.OK
			}
			same(t, "a list up to the end", readsEdit(t, slices.Concat(begin, zeros(n))), should)
		}
	}
}

// Of two errors the one that stands first is told.
func TestFirstErrorsOfEdits(t *testing.T) {
	wrong := []struct {
		number []byte
		fault  api.Errno
	}{{long(1, 0), api.ErrForm}, {plainNumber(-1), api.ErrForm}, {plainNumber(999), api.ErrEnd}}
	for i, first := range fullCounts {
		for _, second := range fullCounts[i+1:] {
			for _, w := range wrong {
				for _, v := range wrong {
					_, numbers := full()
					numbers[first], numbers[second] = w.number, v.number
					same(t, "two errors", readsEdit(t, slices.Concat(numbers...)), w.fault)
				}
			}
		}
	}
}
