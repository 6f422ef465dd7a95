package journal_test

import (
	"encoding/hex"
	"strings"
	"testing"

	"scumble/api"
	"scumble/journal"
)

func TestRecordsByHand(t *testing.T) {
	for payload, should := range map[string]string{
		"":             "000000002144df1c",
		"\x00":         "0000000100df39c65c",
		"123456789":    "00000009313233343536373839de9c40c0",
		"\xff\x00\xfe": "00000003ff00fe6b449b66",
	} {
		b, fault := journal.Record([]byte(payload))
		same(t, "Record", fault, api.OK)
		same(t, "Record of "+payload, hex.EncodeToString(b), should)
	}
	none, fault := journal.Record(nil)
	same(t, "Record of nil", fault, api.OK)
	same(t, "Record of nil", hex.EncodeToString(none), "000000002144df1c")
}

// edges are lengths about those at which another byte of the length begins, and the greatest.
func edges() []int {
	return []int{0, 1, 2, 3, 4, 5, 7, 8, 9, 254, 255, 256, 257, 65534, 65535, 65536, 65537, 1<<23 - 1, 1 << 23}
}

func TestRecordsOfEachLength(t *testing.T) {
	d := &draw{1}
	for _, n := range edges() {
		payload := d.text(n)
		b, fault := journal.Record([]byte(payload))
		same(t, "Record", fault, api.OK)
		if string(b) != form(payload) {
			t.Errorf("the record of %d bytes isn't length, payload and sum", n)
		}
		stands(t, "a record that was made", string(b), payload)
	}
}

func TestRecordsThatAreTooLong(t *testing.T) {
	for _, n := range []int{api.MaxRecord + 1, api.MaxRecord + 2, 1 << 24, 1<<24 + 1, 1 << 25} {
		b, fault := journal.Record(make([]byte, n))
		same(t, "Record", fault, api.ErrLimit)
		same(t, "bytes beside the error", len(b), 0)
	}
}

func TestRecordsOneBehindTheOther(t *testing.T) {
	for _, payloads := range [][]string{
		{}, {""}, {"", ""}, {"", "", ""}, {"a"}, {"a", "a"}, {"a", ""}, {"", "a", ""}, {"abc", "", "defgh", "\x00", ""},
		{"\x00\x00\x00\x00", "\x00\x00\x00\x00\x21\x44\xdf\x1c"}, {form("within"), form(""), forms("two", "of them")},
		{strings.Repeat("\x00", 300), strings.Repeat("\xff", 300)},
	} {
		stands(t, "records", forms(payloads...), payloads...)
		all := ""
		for _, p := range payloads {
			b, _ := journal.Record([]byte(p))
			all += string(b)
		}
		same(t, "records that were made", all, forms(payloads...))
	}
}
