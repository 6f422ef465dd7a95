package journal_test

import (
	"strings"
	"testing"

	"scumble/api"
	"scumble/journal"
	"scumble/reel"
)

// plain is a reel and its journal told by the chapters' words.
type plain struct {
	room   int
	text   string // the reel's
	safe   int
	left   int // calls that an armed reel still does; below 0 it isn't armed
	down   bool
	open   bool // there is a journal
	closed bool
	size   int
}

// goes tells whether a call of the reel is done.
func (p *plain) goes() bool {
	p.down = p.down || p.left == 0
	p.left--
	return !p.down
}

func (p *plain) append(payload string) api.Errno {
	switch {
	case p.closed:
		return api.ErrClosed
	case len(payload) > api.MaxRecord:
		return api.ErrLimit
	case !p.down && len(p.text)+len(form(payload)) > p.room:
		return api.ErrFull
	}
	if !p.down {
		p.text += form(payload)
	}
	if !p.goes() {
		p.closed = true
		return api.ErrDown
	}
	p.size += len(form(payload))
	return api.OK
}

func (p *plain) sync() api.Errno {
	if p.closed {
		return api.ErrClosed
	}
	if !p.goes() {
		p.closed = true
		return api.ErrDown
	}
	p.safe = len(p.text)
	return api.OK
}

func (p *plain) reopen() ([]string, api.Errno) {
	p.open = false
	if p.down {
		return nil, api.ErrDown
	}
	payloads, end := plainScan(p.text)
	if end < len(p.text) {
		if !p.goes() {
			return nil, api.ErrDown
		}
		p.text, p.safe = p.text[:end], min(p.safe, end)
	}
	if !p.goes() {
		return nil, api.ErrDown
	}
	p.open, p.closed, p.safe, p.size = true, false, end, end
	return payloads, api.OK
}

// crash spoils the last one of the bytes that are left and weren't safe.
func (p *plain) crash(keep int, spoil bool) {
	p.text = p.text[:min(len(p.text), p.safe+keep)]
	if last := len(p.text) - 1; spoil && last >= p.safe {
		p.text = p.text[:last] + string([]byte{p.text[last] ^ 1})
	}
	p.safe, p.left, p.down, p.open = len(p.text), -1, false, false
}

// pair is a journal and the plain one.
type pair struct {
	r *reel.Reel
	j *journal.Journal
	p *plain
}

// step is a call of both, that tells both answers.
type step struct {
	name string
	do   func(x *pair) (got string, should string)
}

func answer(fault api.Errno, payloads ...string) string {
	return told(payloads...) + string(rune('0'+fault))
}

func appendStep(name string, payload string) step {
	b := []byte(payload)
	return step{"Append " + name, func(x *pair) (string, string) {
		if !x.p.open {
			return "", ""
		}
		return answer(x.j.Append(b)), answer(x.p.append(payload))
	}}
}

func syncStep() step {
	return step{"Sync", func(x *pair) (string, string) {
		if !x.p.open {
			return "", ""
		}
		return answer(x.j.Sync()), answer(x.p.sync())
	}}
}

func openStep() step {
	return step{"Open", func(x *pair) (string, string) {
		j, payloads, fault := journal.Open(x.r)
		x.j = j
		should, e := x.p.reopen()
		return texts(payloads) + answer(fault), answer(e, should...)
	}}
}

func armStep(name string, n int) step {
	return step{"Arm " + name, func(x *pair) (string, string) {
		x.r.Arm(n)
		x.p.left = n
		return "", ""
	}}
}

// A journal isn't used any more behind a crash, so there is none till the next Open.
func crashStep(name string, keep int, garble string) step {
	return step{"Crash " + name, func(x *pair) (string, string) {
		x.r.Crash(keep, []byte(garble))
		x.p.crash(keep, garble != "")
		x.j = nil
		return "", ""
	}}
}

func steps() []step {
	return []step{
		openStep(), appendStep("of nothing", ""), appendStep("of a byte", "a"), appendStep("of too much", strings.Repeat("a", api.MaxRecord+1)), syncStep(),
		armStep("0", 0), armStep("1", 1), crashStep("that keeps nothing", 0, ""), crashStep("that keeps a record", 9, "\x01"), crashStep("that keeps all", 99, ""),
	}
}

// alike holds both against one another.
func (x *pair) alike() bool {
	if x.r.Down() != x.p.down || x.r.Safe() != x.p.safe || content(x.r) != x.p.text || (x.j != nil) != x.p.open {
		return false
	}
	return x.j == nil || x.j.Size() == x.p.size
}

// run does a script on a reel with this text, and tells where both differ first: the
// number of the step, and whether there is one.
func run(t *testing.T, text string, script []step) (int, bool) {
	t.Helper()
	const room = 29
	x := &pair{r: made(t, room, text, len(text)/2), p: &plain{room: room, text: text, safe: len(text) / 2, left: -1}}
	for i, s := range append([]step{openStep()}, script...) {
		if got, should := s.do(x); got != should || !x.alike() {
			return i, true
		}
	}
	return 0, false
}

// Every script of five calls behind an Open.
func TestScriptsAgainstThePlainJournal(t *testing.T) {
	all := steps()
	script := make([]step, 5)
	count := 1
	for range script {
		count *= len(all)
	}
	for n := range count {
		for i, rest := 0, n; i < len(script); i, rest = i+1, rest/len(all) {
			script[i] = all[rest%len(all)]
		}
		text := form("b") + "junk"[:n%3]
		if at, differ := run(t, text, script); differ {
			t.Log("Open")
			for _, s := range script[:at] {
				t.Log(s.name)
			}
			t.Fatal("differs from the plain journal at the last of these calls")
		}
	}
}
