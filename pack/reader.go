package pack

import (
	"scumble/affine"
	"scumble/api"
	"scumble/hist"
	"scumble/lasso"
	"scumble/tree"
)

// The tenth byte of a number, and the greatest that it may be: 64 bits are full with it.
const (
	lastByte = 9
	lastTop  = 1
)

// reader reads things one behind the other. Behind its first fault, which stays, it has
// nothing left to read, and each number that it tells is 0.
type reader struct {
	rest  []byte
	fault api.Errno
}

func (r *reader) fail(fault api.Errno) {
	if r.fault == api.OK {
		r.fault = fault
	}
	r.rest = nil
}

// end is the first fault, when all should have been read.
func (r *reader) end() api.Errno {
	if len(r.rest) > 0 {
		r.fail(api.ErrForm)
	}
	return r.fault
}

func (r *reader) numbers(places ...*int) {
	for _, p := range places {
		*p = r.number()
	}
}

func (r *reader) number() int {
	all := uint64(0)
	for i, b := range r.rest {
		if i > 0 && b == 0 || i == lastByte && b > lastTop {
			r.fail(api.ErrForm)
			return 0
		}
		all |= uint64(b%more) << (i * groupBits)
		if b < more {
			r.rest = r.rest[i+1:]
			return int(all>>1) ^ -int(all&1)
		}
	}
	r.fail(api.ErrEnd)
	return 0
}

func (r *reader) flag() bool {
	n := r.number()
	if n != 0 && n != 1 {
		r.fail(api.ErrForm)
	}
	return n == 1
}

// count reads how many things a list has.
func (r *reader) count() int {
	n := r.number()
	if n < 0 {
		r.fail(api.ErrForm)
		return 0
	}
	if n > len(r.rest) {
		r.fail(api.ErrEnd)
		return 0
	}
	return n
}

// bytes reads a list of bytes as they are.
func (r *reader) bytes() []byte {
	n := r.count()
	b := append([]byte(nil), r.rest[:n]...)
	r.rest = r.rest[n:]
	return b
}

// getList reads a list of things, each by get, which reads from r.
func getList[T any](r *reader, get func() T) []T {
	// No room is made ahead: a list may say more things than there are, and lists within
	// one another each as many.
	var things []T
	for range r.count() {
		thing := get()
		if r.fault != api.OK {
			return nil
		}
		things = append(things, thing)
	}
	return things
}

// row reads a list of numbers.
func (r *reader) row() []int { return getList(r, r.number) }

func (r *reader) point() (p lasso.Point) {
	r.numbers(&p.X, &p.Y)
	return p
}

func (r *reader) plane() (m affine.Map) {
	for i := range m {
		m[i] = r.number()
	}
	return m
}

func (r *reader) edit() (e tree.Edit) {
	r.numbers(&e.Kind, &e.ID, &e.To, &e.At, &e.N, &e.M, &e.X, &e.Y, &e.W, &e.H)
	e.P = r.row()
	e.Shape = getList(r, r.point)
	e.Map = r.plane()
	e.Params = r.row()
	return e
}

// layers reads a list of layers that stand so deep.
func (r *reader) layers(depth int) []tree.Layer {
	return getList(r, func() tree.Layer { return r.layer(depth) })
}

func (r *reader) layer(depth int) (l tree.Layer) {
	if depth > api.MaxDepth {
		r.fail(api.ErrLimit)
		return l
	}
	r.numbers(&l.ID, &l.Kind)
	l.Hidden = r.flag()
	r.numbers(&l.Opacity, &l.Mode, &l.W, &l.H)
	l.P = r.row()
	l.Mask = r.bytes()
	l.Map = r.plane()
	l.Smooth = r.flag()
	r.numbers(&l.Table)
	l.Params = r.row()
	l.Kids = r.layers(depth + 1)
	return l
}

// doc reads a document, in which the root's own layers stand 1 deep.
func (r *reader) doc() (d tree.Doc) {
	r.numbers(&d.W, &d.H, &d.Next)
	d.Kids = r.layers(1)
	return d
}

func (r *reader) state() (s hist.State) {
	s.Doc = r.doc()
	s.Past = getList(r, r.doc)
	s.Future = getList(r, r.doc)
	return s
}
