package journal_test

import (
	"bytes"
	"testing"

	"scumble/api"
	"scumble/journal"
	"scumble/reel"
)

// apart writes each list with its spare room, and tells where two share memory.
func apart(t *testing.T, lists ...[]byte) {
	t.Helper()
	for i, b := range lists {
		b = b[:cap(b)]
		for at := range b {
			b[at] = byte(i)
		}
	}
	for i, b := range lists {
		b = b[:cap(b)]
		if bytes.Count(b, []byte{byte(i)}) != len(b) {
			t.Fatal("two lists share memory")
		}
	}
}

// roomy is a text with spare room behind it, in which a record stands.
func roomy(text string) []byte { return []byte(text + form("spare"))[:len(text)] }

// spare is the room behind a list of roomy's.
func spare(b []byte) string { return string(b[len(b) : len(b)+len(form("spare"))]) }

func TestRecordsAreApart(t *testing.T) {
	for _, text := range []string{"", "a", "some bytes"} {
		payload := roomy(text)
		first, _ := journal.Record(payload)
		second, _ := journal.Record(payload)
		same(t, "the payload", string(payload), text)
		same(t, "its spare room", spare(payload), form("spare"))
		apart(t, payload, first, second)
	}
}

func TestScannedPayloadsAreApart(t *testing.T) {
	for _, text := range []string{"", form(""), forms("one", "", "three", "", "fifth of all"), form("one") + "junk"} {
		b := roomy(text)
		first, _ := journal.Scan(b)
		second, _ := journal.Scan(b)
		same(t, "what is scanned", string(b), text)
		same(t, "its spare room", spare(b), form("spare"))
		apart(t, append(append([][]byte{b}, first...), second...)...)
		should, _ := plainScan(text)
		third, _ := journal.Scan(roomy(text))
		clear(first[:cap(first)])
		same(t, "payloads, when those of another answer are written", texts(third), told(should...))
	}
}

// Bytes in the spare room aren't read.
func TestSpareRoomIsNotRead(t *testing.T) {
	all := []byte(forms("one", "two"))
	for n := range len(all) + 1 {
		payloads, end := journal.Scan(all[:n])
		should, e := plainScan(string(all[:n]))
		same(t, "payloads", texts(payloads), told(should...))
		same(t, "the end", end, e)
	}
}

func TestOpenedPayloadsAreApart(t *testing.T) {
	all := forms("one", "", "three")
	r := made(t, 100, all+"junk", 9)
	_, first, _ := journal.Open(r)
	j, second, _ := journal.Open(r)
	apart(t, append(first, second...)...)
	holds(t, j, r, "one", "", "three")
	same(t, "Append", j.Append([]byte("four")), api.OK)
	opened(t, r, "one", "", "three", "four")
}

// What is appended is neither changed nor kept, its spare room neither.
func TestAppendedPayloadsStay(t *testing.T) {
	r := reel.New(200)
	j := opened(t, r)
	payload := roomy("some bytes")
	for range 3 {
		same(t, "Append", j.Append(payload), api.OK)
		same(t, "the payload", string(payload), "some bytes")
		same(t, "its spare room", spare(payload), form("spare"))
	}
	clear(payload[:cap(payload)])
	same(t, "Sync", j.Sync(), api.OK)
	opened(t, r, "some bytes", "some bytes", "some bytes")
	payload = roomy("down")
	r.Arm(0)
	same(t, "Append", j.Append(payload), api.ErrDown)
	same(t, "Append", j.Append(payload), api.ErrClosed)
	same(t, "the payload", string(payload), "down")
	same(t, "its spare room", spare(payload), form("spare"))
}
