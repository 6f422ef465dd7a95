package journal_test

import (
	"encoding/binary"
	"hash/adler32"
	"hash/crc32"
	"strings"
	"testing"

	"scumble/api"
	"scumble/journal"
)

func TestScanOfNothing(t *testing.T) {
	for _, b := range [][]byte{nil, {}, make([]byte, 0, 9)} {
		payloads, end := journal.Scan(b)
		same(t, "how many", len(payloads), 0)
		same(t, "the end", end, 0)
	}
}

// A record that isn't whole doesn't stand, at whatever byte it ends.
func TestScanOfBeginnings(t *testing.T) {
	payloads := []string{"abc", "", "\x00\x00\x00\x00\x21\x44\xdf\x1c", "", "last"}
	all := forms(payloads...)
	for n := range len(all) + 1 {
		whole := 0
		for whole < len(payloads) && len(forms(payloads[:whole+1]...)) <= n {
			whole++
		}
		stands(t, "a beginning", all[:n], payloads[:whole]...)
	}
}

// What is no record ends the reading, though good ones stand behind it.
func TestScanBehindWhatIsNoRecord(t *testing.T) {
	for _, bad := range []string{
		"\x00", strings.Repeat("\x00", 4), strings.Repeat("\x00", 8), strings.Repeat("\xff", 8), strings.Repeat("\x00", 80), "junk",
		form("x")[1:], form("x")[:8], form("x")[:1], form("")[:7], form("")[1:],
	} {
		stands(t, "no record", bad)
		stands(t, "no record behind others", forms("one", "")+bad, "one", "")
		stands(t, "no record amid others", forms("one", "")+bad+forms("two", "", "three"), "one", "")
	}
}

// Each bit of a record counts: of its length, its payload and its sum.
func TestScanOfSpoiledBits(t *testing.T) {
	payloads := []string{"ahead", "", "some bytes", "behind"}
	all, from := forms(payloads...), 0
	for i, p := range payloads {
		for at := from; at < from+len(form(p)); at++ {
			for bit := range 8 {
				b := []byte(all)
				b[at] ^= 1 << bit
				stands(t, "a spoiled bit", string(b), payloads[:i]...)
			}
		}
		from += len(form(p))
	}
}

func TestScanOfLengthsThatMayNotBe(t *testing.T) {
	most := strings.Repeat("\x07", api.MaxRecord)
	stands(t, "the greatest record", form("a")+form(most)+form("b"), "a", most, "b")
	stands(t, "the greatest record, cut", form("a")+form(most)[:len(form(most))-1], "a")
	stands(t, "one more", form("a")+form(most+"\x07")+form("b"), "a")
	stands(t, "two more", form(most+"\x07\x07"))
	stands(t, "twice as many", form(most+most))
}

// Lengths that say another number than there are bytes, up to the greatest that four bytes
// hold, though the sum is that of what stands there.
func TestScanOfLengthsThatLie(t *testing.T) {
	for _, n := range []uint32{0, 1, 2, 4, 5, 7, 8, 1 << 8, 3 << 8, 3 << 16, 3 << 24, 1 << 23, 1<<23 + 1, 1<<31 - 1, 1 << 31, 1<<32 - 5, 1<<32 - 4, 1<<32 - 1} {
		lie := sealed(number(n) + "abc")
		stands(t, "a length that lies", form("a")+lie, "a")
		stands(t, "a length that lies, ahead of others", form("a")+lie+forms("b", "c"), "a")
	}
	stands(t, "a length that doesn't", form("a")+sealed(number(3)+"abc")+forms("b", "c"), "a", "abc", "b", "c")
}

// Sums of something else, or in another order, are none.
func TestScanOfOtherSums(t *testing.T) {
	length, payload := number(5), "bytes"
	all := []byte(length + payload)
	little := binary.LittleEndian.AppendUint32(nil, crc32.ChecksumIEEE(all))
	for what, sum := range map[string]string{
		"of the payload alone": number(crc32.ChecksumIEEE([]byte(payload))), "of the length alone": number(crc32.ChecksumIEEE([]byte(length))),
		"of both in the other order": number(crc32.ChecksumIEEE([]byte(payload + length))), "the lowest byte first": string(little),
		"with all bits turned round": number(^crc32.ChecksumIEEE(all)), "an Adler": number(adler32.Checksum(all)), "no sum": number(0),
		"by another polynomial": number(crc32.Checksum(all, crc32.MakeTable(crc32.Castagnoli))),
	} {
		stands(t, "a sum "+what, form("a")+string(all)+sum+form("b"), "a")
	}
	stands(t, "the sum", form("a")+sealed(string(all))+form("b"), "a", payload, "b")
}

// spoiled is a text with something done to it at some place, or left as it is.
func (d *draw) spoiled(text string) string {
	if len(text) == 0 {
		return d.text(d.next(20))
	}
	at, junk := d.next(len(text)), d.text(1+d.next(9))
	switch d.next(6) {
	case 0:
		return text[:at]
	case 1:
		return text[:at] + junk + text[at:]
	case 2:
		return text[:at] + text[min(len(text), at+len(junk)):]
	case 3:
		return text[:at] + junk + text[min(len(text), at+len(junk)):]
	case 4:
		return text + junk
	}
	return text
}

func TestScanAgainstThePlainWay(t *testing.T) {
	d := &draw{2}
	for range 4000 {
		all := ""
		for range d.next(6) {
			payload := d.text(d.next(12))
			if d.next(4) == 0 {
				payload = form(payload)
			}
			all += form(payload)
		}
		all = d.spoiled(all)
		payloads, _ := plainScan(all)
		stands(t, "a drawn text", all, payloads...)
	}
}

// As many records as a reel has room for.
func TestScanOfManyRecords(t *testing.T) {
	const count = api.MaxReel / 8
	payloads, end := journal.Scan([]byte(strings.Repeat(form(""), count) + "1234567"))
	same(t, "how many", len(payloads), count)
	same(t, "the end", end, 8*count)
	for _, p := range payloads {
		if len(p) > 0 {
			t.Fatal("a record isn't empty")
		}
	}
}
