package journal_test

import (
	"encoding/binary"
	"hash/crc32"
	"strconv"
	"strings"
	"testing"

	"scumble/api"
	"scumble/journal"
	"scumble/reel"
)

func same[T comparable](t *testing.T, what string, got T, should T) {
	t.Helper()
	if got != should {
		t.Errorf("%s: %v, not %v", what, got, should)
	}
}

// number is one in four bytes, by another program.
func number(n uint32) string { return string(binary.BigEndian.AppendUint32(nil, n)) }

// sealed is a text and its sum, by another program.
func sealed(text string) string { return text + number(crc32.ChecksumIEEE([]byte(text))) }

// form is a record of a payload, which may have any length.
func form(payload string) string { return sealed(number(uint32(len(payload))) + payload) }

// forms are records one behind the other.
func forms(payloads ...string) string {
	all := ""
	for _, p := range payloads {
		all += form(p)
	}
	return all
}

// plainScan tries each length that the next payload may have, and looks whether such a
// record stands there.
func plainScan(text string) (payloads []string, end int) {
	for {
		rest, found := text[end:], false
		for n := 0; !found && n+8 <= len(rest); n++ {
			if r := form(rest[4 : 4+n]); strings.HasPrefix(rest, r) {
				payloads, end, found = append(payloads, rest[4:4+n]), end+len(r), true
			}
		}
		if !found {
			return payloads, end
		}
	}
}

// texts are payloads as one text.
func texts(payloads [][]byte) string {
	var all strings.Builder
	for _, p := range payloads {
		all.WriteString(quoted(string(p)))
	}
	return all.String()
}

func told(payloads ...string) string {
	var all [][]byte
	for _, p := range payloads {
		all = append(all, []byte(p))
	}
	return texts(all)
}

// quoted is a text that can be printed; a long one is told by its length, its ends and its
// sum.
func quoted(text string) string {
	if n := len(text); n > 200 {
		text = text[:9] + ".." + strconv.Itoa(n) + ".." + sealed(text)[n-9:]
	}
	return strconv.Quote(text)
}

// stands tells where Scan of a text doesn't find just these records.
func stands(t *testing.T, what string, text string, payloads ...string) {
	t.Helper()
	got, end := journal.Scan([]byte(text))
	same(t, what+": how many", len(got), len(payloads))
	same(t, what, texts(got), told(payloads...))
	same(t, what+": the end", end, len(forms(payloads...)))
}

// made is a reel with this text, the first so many bytes of it safe.
func made(t *testing.T, capacity int, text string, safe int) *reel.Reel {
	t.Helper()
	r := reel.New(capacity)
	same(t, "the reel's Append", r.Append([]byte(text[:safe])), api.OK)
	same(t, "the reel's Sync", r.Sync(), api.OK)
	same(t, "the reel's Append", r.Append([]byte(text[safe:])), api.OK)
	return r
}

// opened is a journal on a reel, which has just these records.
func opened(t *testing.T, r *reel.Reel, payloads ...string) *journal.Journal {
	t.Helper()
	j, got, fault := journal.Open(r)
	same(t, "Open", fault, api.OK)
	if fault != api.OK {
		t.FailNow()
	}
	same(t, "how many records Open tells", len(got), len(payloads))
	same(t, "Open's records", texts(got), told(payloads...))
	holds(t, j, r, payloads...)
	same(t, "Safe behind Open", r.Safe(), r.Size())
	return j
}

// holds tells where a journal or its reel hasn't just these records.
func holds(t *testing.T, j *journal.Journal, r *reel.Reel, payloads ...string) {
	t.Helper()
	all := forms(payloads...)
	same(t, "Size", j.Size(), len(all))
	same(t, "what stands on the reel", quoted(content(r)), quoted(all))
}

// content is what a reel has, though it may be down.
func content(r *reel.Reel) string {
	c := r.Clone()
	if c.Down() {
		c.Crash(c.Size(), nil)
	}
	b, _ := c.Read(0, c.Size())
	return string(b)
}

// refusesToOpen tells where Open of a reel hasn't this error, or answers anything beside it.
func refusesToOpen(t *testing.T, r *reel.Reel, should api.Errno) {
	t.Helper()
	j, payloads, fault := journal.Open(r)
	same(t, "Open", fault, should)
	same(t, "a journal beside the error", j == nil, true)
	same(t, "records beside the error", len(payloads), 0)
}

// draw is a row of numbers that looks without a rule, alike at each run.
type draw struct{ state uint64 }

func (d *draw) next(n int) int {
	d.state = d.state*6364136223846793005 + 1442695040888963407
	return int(d.state>>20) % n
}

// text is one of so many bytes, of which many are 0.
func (d *draw) text(n int) string {
	b := make([]byte, n)
	for i := range b {
		b[i] = byte(d.next(2) * d.next(256))
	}
	return string(b)
}
