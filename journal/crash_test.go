package journal_test

import (
	"strings"
	"testing"

	"scumble/api"
	"scumble/journal"
	"scumble/reel"
)

// row is records and syncs in their order: a text is a record.
var row = []any{"one", "", 0, "three", "", 0, "", form("five"), "last", 0, "\x00\x00"}

// written is a reel on which a row was begun, and what became of it.
type written struct {
	r        *reel.Reel
	appended []string // with the one that was answered ErrDown
	accepted int
	safe     int // how many records were there at the last sync that was answered OK
	down     bool
}

// write does a row on a new reel that is armed; at its end it may be up still.
func write(t *testing.T, row []any, calls int) written {
	t.Helper()
	w := written{r: reel.New(1000)}
	j := opened(t, w.r)
	w.r.Arm(calls)
	for _, call := range row {
		var fault api.Errno
		if payload, ok := call.(string); ok {
			w.appended = append(w.appended, payload)
			fault = j.Append([]byte(payload))
		} else {
			fault = j.Sync()
		}
		if fault != api.OK {
			same(t, "a call at which the reel goes down", fault, api.ErrDown)
			w.down = true
			return w
		}
		w.accepted = len(w.appended)
		if call == 0 {
			w.safe = w.accepted
		}
	}
	return w
}

// left are the records of which no byte lacks or is another one on a reel.
func (w written) left(r *reel.Reel) []string {
	n := 0
	for n < len(w.appended) && strings.HasPrefix(content(r), forms(w.appended[:n+1]...)) {
		n++
	}
	return w.appended[:n]
}

// garbles are what the last bytes are xored with, among them such as leave them as they are.
func garbles() []string {
	return []string{
		"", "\x01", "\x80\x00", "\x01" + strings.Repeat("\x00", 7), strings.Repeat("\x00", 9), strings.Repeat("\xff", 13),
		strings.Repeat("\x55\xaa\x01", 400),
	}
}

// crashes are all that a reel may be behind a crash, for some ways to garble.
func (w written) crashes() []*reel.Reel {
	var all []*reel.Reel
	for keep := range w.r.Size() - w.r.Safe() + 2 {
		for _, garble := range garbles() {
			c := w.r.Clone()
			c.Crash(keep, []byte(garble))
			all = append(all, c)
		}
	}
	return all
}

// At each call of a row, whatever is kept and however it is garbled: all records that were
// safe, behind them a beginning of the others; and opened again the same.
func TestCrashesAtEachCall(t *testing.T) {
	for calls := range len(row) + 1 {
		w := write(t, row, calls)
		same(t, "whether it went down", w.down, calls < len(row))
		same(t, "Size of the reel", w.r.Size(), len(forms(w.appended...)))
		seen := make(map[int]bool)
		for _, c := range w.crashes() {
			left := w.left(c)
			seen[len(left)] = true
			if len(left) < w.safe {
				t.Fatalf("%d records are left, of which %d were safe", len(left), w.safe)
			}
			opened(t, c, left...)
			opened(t, c, left...)
		}
		// The test itself is none if crashes don't leave each beginning.
		same(t, "how many beginnings were left", len(seen), len(w.appended)-w.safe+1)
	}
}

// A crash amid the Open behind a crash, and one amid the next Open.
func TestCrashesAmidOpen(t *testing.T) {
	for calls := range len(row) + 1 {
		w := write(t, row, calls)
		for _, c := range w.crashes() {
			left := w.left(c)
			for _, first := range []int{0, 1} {
				for _, keep := range []int{0, 100} {
					again := c.Clone()
					again.Arm(first)
					if _, _, fault := journal.Open(again); fault != api.OK {
						same(t, "Open", fault, api.ErrDown)
					}
					again.Crash(keep, []byte("\x01"))
					opened(t, again, left...)
				}
			}
		}
	}
}

// What is appended behind a crash stands behind what was left of it, and lasts as well.
func TestCrashesBehindCrashes(t *testing.T) {
	w := write(t, row, 7)
	for _, c := range w.crashes() {
		left := w.left(c)
		j := opened(t, c, left...)
		same(t, "Append", j.Append([]byte("safe")), api.OK)
		same(t, "Sync", j.Sync(), api.OK)
		same(t, "Append", j.Append([]byte("not safe")), api.OK)
		holds(t, j, c, append(left[:len(left):len(left)], "safe", "not safe")...)
		c.Crash(9, nil)
		opened(t, c, append(left[:len(left):len(left)], "safe")...)
	}
}

// Where the reel has had bytes behind its records, they don't come back amid them.
func TestCrashesBehindACut(t *testing.T) {
	r := made(t, 200, form("one")+"\x00"+forms("two", "three"), 5)
	j := opened(t, r, "one")
	same(t, "Append", j.Append([]byte("\x00")), api.OK)
	for keep := range 30 {
		c := r.Clone()
		c.Crash(keep, nil)
		if keep < len(form("\x00")) {
			opened(t, c, "one")
		} else {
			opened(t, c, "one", "\x00")
		}
	}
}

// xored is what a text is garbled with to become another one.
func xored(a string, b string) []byte {
	garble := []byte(a)
	for i := range garble {
		garble[i] ^= b[i]
	}
	return garble
}

// What a crash garbled may happen to have its sum: then it is what stands on the reel.
func TestGarbledRecordsThatHaveTheirSum(t *testing.T) {
	for _, x := range []struct {
		behind  string
		records []string
	}{
		{form("other text"), []string{"other text"}},
		{forms("", "xy"), []string{"", "xy"}},
		{form("") + "1234567890", []string{""}},
	} {
		r := reel.New(100)
		j := opened(t, r)
		same(t, "Append", j.Append([]byte("safe")), api.OK)
		same(t, "Sync", j.Sync(), api.OK)
		same(t, "Append", j.Append([]byte("lost bytes")), api.OK)
		r.Crash(100, xored(form("lost bytes"), x.behind))
		opened(t, r, append([]string{"safe"}, x.records...)...)
		opened(t, r, append([]string{"safe"}, x.records...)...)
	}
}

// Long records, cut at their ends.
func TestCrashesOfLongRecords(t *testing.T) {
	d := &draw{3}
	first, second := d.text(100000), d.text(api.MaxRecord)
	r := reel.New(api.MaxReel)
	j := opened(t, r)
	same(t, "Append", j.Append([]byte(first)), api.OK)
	same(t, "Sync", j.Sync(), api.OK)
	same(t, "Append", j.Append([]byte(second)), api.OK)
	for keep, all := range map[int]bool{0: false, 1: false, 4: false, api.MaxRecord: false, api.MaxRecord + 7: false, api.MaxRecord + 8: true} {
		c := r.Clone()
		c.Crash(keep, nil)
		if all {
			opened(t, c, first, second)
		} else {
			opened(t, c, first)
		}
	}
	garble := make([]byte, api.MaxRecord/2)
	garble[0] = 1
	r.Crash(api.MaxReel, garble)
	opened(t, r, first)
}
