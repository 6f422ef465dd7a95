package reel_test

import (
	"testing"

	"scumble/api"
	"scumble/reel"
)

// cell is one byte of the plain reel that scripts are held against.
type cell struct {
	b    byte
	safe bool
}

// plain is a reel told cell by cell, with one entry in due for each call that
// an armed one still does.
type plain struct {
	room  int
	cells []cell
	armed bool
	due   []struct{}
	down  bool
}

// goes tells whether a call that isn't refused is done.
func (p *plain) goes() bool {
	switch {
	case !p.armed:
		return true
	case len(p.due) == 0:
		p.down = true
		return false
	}
	p.due = p.due[1:]
	return true
}

func (p *plain) add(text string) api.Errno {
	if p.down {
		return api.ErrDown
	}
	if len(p.cells)+len(text) > p.room {
		return api.ErrFull
	}
	for i := range len(text) {
		p.cells = append(p.cells, cell{text[i], false})
	}
	if !p.goes() {
		return api.ErrDown
	}
	return api.OK
}

func (p *plain) sync() api.Errno {
	if p.down || !p.goes() {
		return api.ErrDown
	}
	for i := range p.cells {
		p.cells[i].safe = true
	}
	return api.OK
}

func (p *plain) cut(n int) api.Errno {
	switch {
	case p.down:
		return api.ErrDown
	case n < 0 || n > len(p.cells):
		return api.ErrRange
	case !p.goes():
		return api.ErrDown
	}
	p.cells = p.cells[:n]
	return api.OK
}

func (p *plain) arm(n int) {
	p.armed = n >= 0
	p.due = nil
	if p.armed {
		p.due = make([]struct{}, n)
	}
}

func (p *plain) crash(keep int, garble string) {
	var left []cell
	for _, c := range p.cells {
		switch {
		case c.safe:
			left = append(left, c)
		case keep > 0:
			left = append(left, c)
			keep--
		}
	}
	for i, g := len(left)-1, len(garble)-1; i >= 0 && g >= 0 && !left[i].safe; i, g = i-1, g-1 {
		left[i].b ^= garble[g]
	}
	for i := range left {
		left[i].safe = true
	}
	*p = plain{room: p.room, cells: left}
}

func (p *plain) text() (text string, safe int) {
	var b []byte
	for _, c := range p.cells {
		b = append(b, c.b)
		if c.safe {
			safe++
		}
	}
	return string(b), safe
}

// step is one call, of a reel and of the plain one: what each answers.
type step struct {
	name string
	do   func(r *reel.Reel, p *plain) (api.Errno, api.Errno)
}

func steps() []step {
	add := func(s string) step {
		return step{"Append " + s, func(r *reel.Reel, p *plain) (api.Errno, api.Errno) { return r.Append([]byte(s)), p.add(s) }}
	}
	cut := func(name string, n int) step {
		return step{"Cut " + name, func(r *reel.Reel, p *plain) (api.Errno, api.Errno) { return r.Cut(n), p.cut(n) }}
	}
	arm := func(name string, n int) step {
		return step{"Arm " + name, func(r *reel.Reel, p *plain) (api.Errno, api.Errno) {
			r.Arm(n)
			p.arm(n)
			return 0, 0
		}}
	}
	crash := func(name string, keep int, garble string) step {
		return step{"Crash " + name, func(r *reel.Reel, p *plain) (api.Errno, api.Errno) {
			r.Crash(keep, []byte(garble))
			p.crash(keep, garble)
			return 0, 0
		}}
	}
	sync := step{"Sync", func(r *reel.Reel, p *plain) (api.Errno, api.Errno) { return r.Sync(), p.sync() }}
	return []step{
		add("a"), add("bcd"), sync, cut("1", 1), cut("3", 3),
		arm("-1", -1), arm("0", 0), arm("1", 1), crash("0", 0, "\x01"), crash("2", 2, "\x01\x02\x04"),
	}
}

// run does a script on a new reel and a new plain one, and tells where they
// differ first: the number of the step, and whether there is one.
func run(script []step) (int, bool) {
	r, p := reel.New(5), &plain{room: 5}
	for i, s := range script {
		if got, should := s.do(r, p); got != should || !alike(r, p) {
			return i, true
		}
	}
	return 0, false
}

// alike holds a reel against the plain one. The bytes of one that is down are
// seen by a crash of its clone.
func alike(r *reel.Reel, p *plain) bool {
	text, safe := p.text()
	if r.Down() != p.down || r.Size() != len(text) || r.Safe() != safe {
		return false
	}
	c := r.Clone()
	if c.Down() {
		if b, e := c.Read(0, 0); e != api.ErrDown || len(b) != 0 {
			return false
		}
		c.Crash(c.Size(), nil)
	}
	b, e := c.Read(0, c.Size())
	return e == api.OK && string(b) == text
}

// Every script of five calls.
func TestScriptsAgainstThePlainReel(t *testing.T) {
	all := steps()
	script := make([]step, 5)
	count := 1
	for range script {
		count *= len(all)
	}
	for n := range count {
		for i, rest := 0, n; i < len(script); i, rest = i+1, rest/len(all) {
			script[i] = all[rest%len(all)]
		}
		if at, differ := run(script); differ {
			for _, s := range script[:at+1] {
				t.Log(s.name)
			}
			t.Fatal("differs from the plain reel at the last of these calls")
		}
	}
}
