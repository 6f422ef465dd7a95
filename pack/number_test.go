package pack_test

import (
	"bytes"
	"math"
	"slices"
	"testing"

	"scumble/api"
	"scumble/pack"
	"scumble/tree"
)

// zeros is the form of so many numbers that are 0.
func zeros(n int) []byte { return make([]byte, n) }

// editOf is the form of an edit whose Kind has these bytes, all else being nothing.
func editOf(kind ...byte) []byte { return append(slices.Clone(kind), zeros(18)...) }

// ends are numbers at and about all that make a form longer, and the last ones.
func ends() []int {
	all := []int{0, math.MaxInt, math.MinInt, math.MaxInt - 1, math.MinInt + 1}
	for bit := range 63 {
		for aside := -2; aside <= 2; aside++ {
			all = append(all, 1<<bit+aside, -1<<bit+aside)
		}
	}
	return all
}

func TestNumbersByHand(t *testing.T) {
	for _, of := range []struct {
		n    int
		form []byte
	}{
		{0, []byte{0}}, {-1, []byte{1}}, {1, []byte{2}}, {-2, []byte{3}}, {63, []byte{0x7e}}, {-64, []byte{0x7f}},
		{64, []byte{0x80, 1}}, {-65, []byte{0x81, 1}}, {100, []byte{0xc8, 1}}, {8191, []byte{0xfe, 0x7f}}, {-8192, []byte{0xff, 0x7f}},
		{8192, []byte{0x80, 0x80, 1}}, {1 << 31, []byte{0x80, 0x80, 0x80, 0x80, 0x10}},
		{math.MaxInt, []byte{0xfe, 0xff, 0xff, 0xff, 0xff, 0xff, 0xff, 0xff, 0xff, 1}},
		{math.MinInt, []byte{0xff, 0xff, 0xff, 0xff, 0xff, 0xff, 0xff, 0xff, 0xff, 1}},
		{1 << 62, []byte{0x80, 0x80, 0x80, 0x80, 0x80, 0x80, 0x80, 0x80, 0x80, 1}},
		{1<<62 - 1, []byte{0xfe, 0xff, 0xff, 0xff, 0xff, 0xff, 0xff, 0xff, 0x7f}},
		{-1 << 62, []byte{0xff, 0xff, 0xff, 0xff, 0xff, 0xff, 0xff, 0xff, 0x7f}},
	} {
		form := editOf(of.form...)
		same(t, "PutEdit", hex(pack.PutEdit(tree.Edit{Kind: of.n})), hex(form))
		e, fault := pack.GetEdit(form)
		same(t, "GetEdit", fault, api.OK)
		same(t, "GetEdit", told(e), told(tree.Edit{Kind: of.n}))
	}
}

func TestNumbers(t *testing.T) {
	all := ends()
	for n := -20000; n <= 20000; n++ {
		all = append(all, n)
	}
	for _, n := range all {
		form := editOf(plainNumber(n)...)
		if got := pack.PutEdit(tree.Edit{Kind: n}); !bytes.Equal(got, form) {
			t.Fatalf("%d is written as %s, not %s", n, hex(got), hex(form))
		}
		if e, fault := pack.GetEdit(form); e.Kind != n || fault != api.OK {
			t.Fatalf("%s is read as %d, %d", hex(form), e.Kind, fault)
		}
	}
}

// fails tells where an edit whose Kind has these bytes doesn't have an error.
func fails(t *testing.T, fault api.Errno, kind ...byte) {
	t.Helper()
	same(t, hex(kind), readsEdit(t, editOf(kind...)), fault)
}

// long is a number's bytes: so many that another one stands behind, and the last ones.
func long(n int, last ...byte) []byte { return append(bytes.Repeat([]byte{0x80}, n), last...) }

func TestNumbersWithTooManyBytes(t *testing.T) {
	fails(t, api.ErrForm, 0x80, 0)
	for n := 1; n <= 20; n++ {
		fails(t, api.ErrForm, long(n, 0)...)
		for _, last := range []byte{1, 2, 0x7f} {
			if n > 9 || n == 9 && last > 1 {
				fails(t, api.ErrForm, long(n, last)...)
			} else {
				fails(t, api.OK, long(n, last)...)
			}
		}
	}
	for _, n := range ends() {
		form := plainNumber(n)
		form[len(form)-1] |= 0x80
		for range 12 - len(form) {
			fails(t, api.ErrForm, append(slices.Clone(form), 0)...)
			form = append(form, 0x80)
		}
	}
}

// The tenth byte is where a number has too many, whatever stands behind it.
func TestTenthBytes(t *testing.T) {
	for tenth := range 256 {
		for _, behind := range [][]byte{nil, {0}, {1}, {0x80}} {
			b := append(long(9, byte(tenth)), behind...)
			should := api.ErrForm
			if tenth == 1 {
				should = api.ErrEnd
			}
			if len(behind) == 1 && behind[0] == 0x80 && tenth == 1 {
				b = append(b, 0)
				should = api.ErrForm
			}
			same(t, hex(b), readsEdit(t, b), should)
		}
	}
}

func TestNumbersThatLackBytes(t *testing.T) {
	for n := range 10 {
		same(t, "a number that lacks bytes", readsEdit(t, long(n)), api.ErrEnd)
		same(t, "a number that lacks bytes", readsEdit(t, bytes.Repeat([]byte{0xff}, n)), api.ErrEnd)
		same(t, "a number that lacks bytes", readsState(t, long(n)), api.ErrEnd)
	}
	same(t, "a tenth byte that is too much", readsEdit(t, long(10)), api.ErrForm)
	same(t, "nothing", readsEdit(t, nil), api.ErrEnd)
	same(t, "nothing", readsState(t, nil), api.ErrEnd)
}

// All bytes that there are: those of the first number, and of one amid others.
func TestAllShortNumbers(t *testing.T) {
	for a := range 256 {
		for b := range 256 {
			for _, behind := range [][]byte{{0}, {0x7f}} {
				kind := append([]byte{byte(a), byte(b)}, behind...)
				readsEdit(t, editOf(kind...))
				readsEdit(t, append(zeros(13), kind...))
			}
		}
	}
}
