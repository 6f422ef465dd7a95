package pack_test

import (
	"fmt"
	"math/big"
	"reflect"
	"slices"
	"testing"

	"scumble/affine"
	"scumble/api"
	"scumble/hist"
	"scumble/lasso"
	"scumble/pack"
	"scumble/tree"
)

// one is 1 in a map's numbers.
const one = 65536

const (
	red   = 0xff0000ff
	blue  = 0x0000ffff
	faint = 0x20408080
)

func same[T comparable](t *testing.T, what string, got T, should T) {
	t.Helper()
	if got != should {
		t.Errorf("%s: %v, not %v", what, got, should)
	}
}

// told is all of a thing as a text, in which nil and empty lists are one.
func told(thing any) string { return fmt.Sprintf("%+v", thing) }

// hex is bytes as a text.
func hex(b []byte) string { return fmt.Sprintf("% x", b) }

// The chapter's words told again: its things stand in their order in the structs, so a
// thing's form is that of its fields one behind the other.

// plainNumber is a number's form.
func plainNumber(n int) []byte {
	wide := big.NewInt(int64(n))
	wide.Mul(wide, big.NewInt(2))
	if n < 0 {
		wide.Neg(wide)
		wide.Sub(wide, big.NewInt(1))
	}
	return plainGroups(wide)
}

// plainGroups are the groups of seven bits of a number from 0 on.
func plainGroups(wide *big.Int) []byte {
	var b []byte
	for {
		group := new(big.Int)
		wide, group = new(big.Int).DivMod(wide, big.NewInt(128), group)
		if wide.Sign() == 0 {
			return append(b, byte(group.Int64()))
		}
		b = append(b, byte(group.Int64())+0x80)
	}
}

// part is a piece of a form.
type part struct {
	what string
	b    []byte
}

const (
	number = "a number"
	flag   = "a flag"
	count  = "the number of a list's things"
	raw    = "a mask's byte"
)

// plainForm is a thing's form.
func plainForm(thing any) []byte { return joined(plainParts(thing)) }

func joined(parts []part) []byte {
	var b []byte
	for _, p := range parts {
		b = append(b, p.b...)
	}
	return b
}

func plainParts(thing any) []part { return partsOf(reflect.ValueOf(thing)) }

func partsOf(v reflect.Value) []part {
	var parts []part
	switch v.Kind() {
	case reflect.Int:
		return []part{{number, plainNumber(int(v.Int()))}}
	case reflect.Uint8:
		return []part{{raw, []byte{byte(v.Uint())}}}
	case reflect.Bool:
		return []part{{flag, map[bool][]byte{false: {0}, true: {2}}[v.Bool()]}}
	case reflect.Slice:
		parts = []part{{count, plainNumber(v.Len())}}
		fallthrough
	case reflect.Array:
		for i := range v.Len() {
			parts = append(parts, partsOf(v.Index(i))...)
		}
	case reflect.Struct:
		for i := range v.NumField() {
			parts = append(parts, partsOf(v.Field(i))...)
		}
	}
	return parts
}

// plainReader reads forms from a place on. It panics with the first error.
type plainReader struct {
	b  []byte
	at int
}

func (r *plainReader) take() byte {
	if r.at == len(r.b) {
		panic(api.ErrEnd)
	}
	r.at++
	return r.b[r.at-1]
}

// number tries how many bytes a number has, until they are the form of one.
func (r *plainReader) number() int {
	from := r.at
	wide := new(big.Int)
	for i := uint(0); ; i++ {
		c := r.take()
		if i == 9 && c > 1 {
			panic(api.ErrForm)
		}
		digit := big.NewInt(int64(c % 128))
		wide.Add(wide, digit.Lsh(digit, 7*i))
		if c < 128 {
			break
		}
	}
	if hex(plainGroups(wide)) != hex(r.b[from:r.at]) {
		panic(api.ErrForm)
	}
	half, odd := new(big.Int).DivMod(wide, big.NewInt(2), new(big.Int))
	if odd.Sign() > 0 {
		half.Add(half, big.NewInt(1)).Neg(half)
	}
	return int(half.Int64())
}

// fill reads a thing into v. A layer stands so deep.
func (r *plainReader) fill(v reflect.Value, depth int) {
	switch v.Kind() {
	case reflect.Int:
		v.SetInt(int64(r.number()))
	case reflect.Uint8:
		v.SetUint(uint64(r.take()))
	case reflect.Bool:
		n := r.number()
		if n < 0 || n > 1 {
			panic(api.ErrForm)
		}
		v.SetBool(n == 1)
	case reflect.Slice:
		r.fillList(v, depth)
	case reflect.Array:
		for i := range v.Len() {
			r.fill(v.Index(i), depth)
		}
	case reflect.Struct:
		if v.Type() == reflect.TypeFor[tree.Layer]() {
			depth++
		}
		if depth > 64 {
			panic(api.ErrLimit)
		}
		for i := range v.NumField() {
			r.fill(v.Field(i), depth)
		}
	}
}

func (r *plainReader) fillList(v reflect.Value, depth int) {
	n := r.number()
	if n < 0 {
		panic(api.ErrForm)
	}
	if n > len(r.b)-r.at {
		panic(api.ErrEnd)
	}
	for range n {
		thing := reflect.New(v.Type().Elem()).Elem()
		r.fill(thing, depth)
		v.Set(reflect.Append(v, thing))
	}
}

// plainGet reads a thing, and then asks for more of it.
func plainGet[T any](b []byte, ask func(T) api.Errno) (thing T, fault api.Errno) {
	defer func() {
		if e := recover(); e != nil {
			var none T
			thing, fault = none, e.(api.Errno)
		}
	}()
	r := &plainReader{b: b}
	r.fill(reflect.ValueOf(&thing).Elem(), 0)
	if r.at < len(b) {
		panic(api.ErrForm)
	}
	if e := ask(thing); e != api.OK {
		panic(e)
	}
	return thing, api.OK
}

func plainEdit(b []byte) (tree.Edit, api.Errno) {
	return plainGet(b, func(tree.Edit) api.Errno { return api.OK })
}

func plainState(b []byte) (hist.State, api.Errno) {
	return plainGet(b, func(s hist.State) api.Errno {
		for _, d := range slices.Concat([]tree.Doc{s.Doc}, s.Past, s.Future) {
			if !d.Right() {
				return api.ErrData
			}
		}
		return api.OK
	})
}

// readsEdit tells where GetEdit doesn't answer as the plain reader, and what was answered.
func readsEdit(t *testing.T, b []byte) api.Errno {
	t.Helper()
	return reads(t, b, pack.GetEdit, plainEdit, pack.PutEdit)
}

// readsState tells where GetState doesn't answer as the plain reader, and what was answered.
func readsState(t *testing.T, b []byte) api.Errno {
	t.Helper()
	return reads(t, b, pack.GetState, plainState, pack.PutState)
}

func reads[T any](t *testing.T, b []byte, get func([]byte) (T, api.Errno), plain func([]byte) (T, api.Errno), put func(T) []byte) api.Errno {
	t.Helper()
	got, fault := get(b)
	should, plainFault := plain(b)
	if fault != plainFault || told(got) != told(should) {
		t.Fatalf("%s:\n%d %+v, not\n%d %+v", hex(b), fault, got, plainFault, should)
	}
	if fault == api.OK && hex(put(got)) != hex(b) {
		t.Fatalf("%s is written as %s", hex(b), hex(put(got)))
	}
	return fault
}

// newDoc is a document behind edits that may be done.
func newDoc(t *testing.T, w int, h int, edits ...tree.Edit) tree.Doc {
	t.Helper()
	d, fault := tree.New(w, h)
	same(t, "New", fault, api.OK)
	for _, e := range edits {
		next, fault := d.Do(e)
		if fault != api.OK {
			t.Fatalf("%+v: %d", e, fault)
		}
		d = next
	}
	return d
}

// paint is a Paint of one pixel all over a rectangle.
func paint(id int, x int, y int, w int, h int, pixel int) tree.Edit {
	return tree.Edit{Kind: 4, ID: id, X: x, Y: y, W: w, H: h, P: slices.Repeat([]int{pixel}, w*h)}
}

// block is the shape of a rectangle.
func block(x int, y int, w int, h int) []lasso.Point {
	return []lasso.Point{{X: x, Y: y}, {X: x + w, Y: y}, {X: x + w, Y: y + h}, {X: x, Y: y + h}}
}

// everyEdit is a script with each kind of edit, of an empty document.
func everyEdit() []tree.Edit {
	return []tree.Edit{
		{Kind: 1, W: 3, H: 2, At: -1}, {Kind: 1, N: 1, At: -1}, {Kind: 1, N: 2, At: -1}, paint(1, 0, 0, 3, 2, red), paint(1, 1, 1, 5, 5, faint),
		{Kind: 1, N: 1, To: 2}, {Kind: 1, To: 4, W: 2, H: 2}, {Kind: 3, ID: 1, To: 4, At: -1}, {Kind: 5, ID: 1, N: 99, M: 3},
		{Kind: 6, ID: 4, N: 1}, {Kind: 7, ID: 1, Shape: block(0, 0, 2, 2)}, {Kind: 7, ID: 2, N: 1, Shape: block(0, 0, 2, 2)},
		{Kind: 7, ID: 2, N: 2}, {Kind: 8, ID: 5, N: 1, Map: affine.Map{0, one, one, 0, -9 * one, 1 << 36}}, {Kind: 9, ID: 3, N: 3, Params: []int{200}},
		{Kind: 9, ID: 3, N: 1, Params: []int{0, 9, 200, 8}}, {Kind: 1, N: 1, At: 0}, {Kind: 3, ID: 2, To: 6}, paint(1, 0, 0, 1, 1, blue), {Kind: 2, ID: 5},
	}
}

// rich is a state whose documents have all that layers may have.
func rich(t *testing.T) hist.State {
	t.Helper()
	h := hist.Open(newDoc(t, 5, 4))
	for _, e := range everyEdit() {
		same(t, "Do", h.Do(e), api.OK)
	}
	for range 6 {
		same(t, "Undo", h.Undo(), api.OK)
	}
	return h.State()
}
