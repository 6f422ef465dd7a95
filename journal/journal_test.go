package journal_test

import (
	"strings"
	"testing"

	"scumble/api"
	"scumble/journal"
	"scumble/reel"
)

func TestOpenOfAnEmptyReel(t *testing.T) {
	for _, capacity := range []int{0, 1, 100} {
		opened(t, reel.New(capacity))
	}
}

func TestOpenTellsWhatStands(t *testing.T) {
	all := forms("one", "", "three")
	for safe := range len(all) + 1 {
		opened(t, made(t, 100, all, safe), "one", "", "three")
	}
	most := strings.Repeat("ab", api.MaxRecord/2)
	opened(t, made(t, api.MaxReel, form(most)+form("behind"), 9), most, "behind")
}

// What is behind the records is cut off, whether it was safe or not.
func TestOpenCutsOff(t *testing.T) {
	all := forms("one", "", "three")
	for _, behind := range []string{"\x00", "junk", form("four")[:11], form("four")[1:], "\x00" + forms("four", "five"), strings.Repeat("\x00", 40)} {
		for _, safe := range []int{0, 5, len(all) - 1, len(all), len(all) + 1, len(all) + len(behind)} {
			r := made(t, 100, all+behind, safe)
			j := opened(t, r, "one", "", "three")
			same(t, "Append", j.Append([]byte("six")), api.OK)
			holds(t, j, r, "one", "", "three", "six")
			opened(t, r, "one", "", "three", "six")
		}
		opened(t, made(t, 100, behind, 0))
	}
}

// What Open cut off no crash brings back, and what it told is safe.
func TestOpenSyncs(t *testing.T) {
	r := made(t, 100, forms("one", "two")+"junk", 0)
	opened(t, r, "one", "two")
	for _, keep := range []int{0, 1, 100} {
		c := r.Clone()
		c.Crash(keep, []byte("garble"))
		same(t, "the reel behind a crash", quoted(content(c)), quoted(forms("one", "two")))
		opened(t, c, "one", "two")
	}
}

func TestOpenOfAReelThatIsDown(t *testing.T) {
	for _, all := range []string{"", "junk", forms("one", "two"), form("one") + "junk"} {
		r := made(t, 100, all, len(all))
		r.Arm(0)
		r.Sync()
		refusesToOpen(t, r, api.ErrDown)
		same(t, "the reel", quoted(content(r)), quoted(all))
	}
}

// Open cuts only if there is anything to cut, and syncs each time: so many calls of the reel.
func TestOpenGoesDown(t *testing.T) {
	for behind, calls := range map[string]int{"": 1, "junk": 2} {
		for _, payloads := range [][]string{{}, {"one"}, {"", "two"}} {
			all := forms(payloads...)
			for _, safe := range []int{0, len(all), len(all + behind)} {
				for n := range calls {
					r := made(t, 100, all+behind, safe)
					r.Arm(n)
					refusesToOpen(t, r, api.ErrDown)
					left := all
					if n == 0 {
						left += behind
					}
					same(t, "the reel", quoted(content(r)), quoted(left))
					same(t, "Safe", r.Safe(), min(safe, len(left)))
					r.Crash(100, nil)
					opened(t, r, payloads...)
				}
				r := made(t, 100, all+behind, safe)
				r.Arm(calls)
				opened(t, r, payloads...)
				same(t, "the next call of the reel", r.Sync(), api.ErrDown)
			}
		}
	}
}

func TestAppend(t *testing.T) {
	r := reel.New(1000)
	j := opened(t, r)
	var payloads []string
	for i, p := range []string{"one", "", "three", form("four"), "\x00", "", strings.Repeat("six", 99)} {
		payloads = append(payloads, p)
		same(t, "Append", j.Append([]byte(p)), api.OK)
		holds(t, j, r, payloads...)
		same(t, "Safe behind Append", r.Safe(), 0)
		opened(t, r.Clone(), payloads[:i+1]...)
	}
	same(t, "Append of nil", j.Append(nil), api.OK)
	opened(t, r.Clone(), append(payloads, "")...)
}

func TestSync(t *testing.T) {
	r := made(t, 100, form("ahead"), 3)
	j := opened(t, r, "ahead")
	for _, p := range []string{"one", "", "three"} {
		same(t, "Append", j.Append([]byte(p)), api.OK)
		safe := r.Size()
		same(t, "Sync", j.Sync(), api.OK)
		same(t, "Safe behind Sync", r.Safe(), safe)
		same(t, "Sync again", j.Sync(), api.OK)
	}
	holds(t, j, r, "ahead", "one", "", "three")
}

// Each length, on a reel that has just the room, and on one that lacks a byte.
func TestAppendOfEachLength(t *testing.T) {
	for _, n := range edges() {
		payload := []byte(strings.Repeat("\x05", n))
		r := reel.New(n + 8)
		j := opened(t, r)
		same(t, "Append", j.Append(payload), api.OK)
		same(t, "Size", j.Size(), n+8)
		opened(t, r, string(payload))
		r = reel.New(n + 7)
		j = opened(t, r)
		same(t, "Append that lacks a byte", j.Append(payload), api.ErrFull)
		holds(t, j, r)
		opened(t, r)
	}
}

// A full reel leaves the journal as it was, and open.
func TestAppendToAFullReel(t *testing.T) {
	r := reel.New(2*8 + 7)
	j := opened(t, r)
	same(t, "Append", j.Append([]byte("abc")), api.OK)
	for range 2 {
		same(t, "Append of too much", j.Append([]byte("defgh")), api.ErrFull)
		holds(t, j, r, "abc")
		same(t, "Sync", j.Sync(), api.OK)
	}
	same(t, "Append of less", j.Append([]byte("defg")), api.OK)
	holds(t, j, r, "abc", "defg")
	same(t, "Append of nothing", j.Append(nil), api.ErrFull)
	opened(t, r, "abc", "defg")
}

func TestAppendOfTooMuch(t *testing.T) {
	r := reel.New(api.MaxReel)
	j := opened(t, r)
	same(t, "Append", j.Append([]byte("abc")), api.OK)
	for _, n := range []int{api.MaxRecord + 1, api.MaxReel, api.MaxReel + 1} {
		same(t, "Append", j.Append(make([]byte, n)), api.ErrLimit)
		holds(t, j, r, "abc")
	}
	same(t, "Append", j.Append([]byte("def")), api.OK)
	opened(t, r, "abc", "def")
}

// Two errors at one time: the one that is named first.
func TestErrorsInTheirOrder(t *testing.T) {
	long := make([]byte, api.MaxRecord+1)
	full := opened(t, reel.New(8))
	same(t, "a payload that is too long, on a full reel", full.Append(long), api.ErrLimit)

	r := reel.New(8)
	j := opened(t, r)
	r.Arm(0)
	same(t, "a payload that is too long, on a reel that would go down", j.Append(long), api.ErrLimit)
	same(t, "a full reel that would go down", j.Append([]byte("a")), api.ErrFull)
	same(t, "whether it is down", r.Down(), false)
	r.Sync()
	same(t, "a payload that is too long, on a reel that is down", j.Append(long), api.ErrLimit)
	same(t, "a full reel that is down", j.Append([]byte("a")), api.ErrDown)
	same(t, "a payload that is too long, when it is closed", j.Append(long), api.ErrClosed)
	same(t, "a full reel, when it is closed", j.Append([]byte("a")), api.ErrClosed)
	same(t, "Sync", j.Sync(), api.ErrClosed)
}

// Append and Sync are one call of the reel each, and none if they are refused.
func TestCallsOfTheReel(t *testing.T) {
	r := reel.New(100)
	j := opened(t, r)
	r.Arm(5)
	same(t, "Append", j.Append([]byte("one")), api.OK)
	same(t, "Append", j.Append(make([]byte, api.MaxRecord+1)), api.ErrLimit)
	same(t, "Append", j.Append(make([]byte, 100)), api.ErrFull)
	same(t, "Append", j.Append(nil), api.OK)
	same(t, "Sync", j.Sync(), api.OK)
	same(t, "Size", j.Size(), len(forms("one", "")))
	same(t, "Sync", j.Sync(), api.OK)
	same(t, "Append", j.Append([]byte("two")), api.OK)
	same(t, "whether it is down", r.Down(), false)
	same(t, "Append", j.Append([]byte("three")), api.ErrDown)
}

// shut tells where a journal isn't closed, or a call of it does anything.
func shut(t *testing.T, j *journal.Journal, r *reel.Reel, size int) {
	t.Helper()
	before := content(r)
	for range 2 {
		same(t, "Append", j.Append([]byte("x")), api.ErrClosed)
		same(t, "Append of nothing", j.Append(nil), api.ErrClosed)
		same(t, "Sync", j.Sync(), api.ErrClosed)
		same(t, "Size", j.Size(), size)
	}
	same(t, "the reel", quoted(content(r)), quoted(before))
}

// Behind ErrDown the journal is closed, also when the reel works again; one that is opened
// then isn't.
func TestClosed(t *testing.T) {
	for what, down := range map[string]func(*journal.Journal) api.Errno{
		"Append": func(j *journal.Journal) api.Errno { return j.Append([]byte("two")) },
		"Sync":   func(j *journal.Journal) api.Errno { return j.Sync() },
	} {
		r := reel.New(100)
		j := opened(t, r)
		same(t, "Append", j.Append([]byte("one")), api.OK)
		r.Arm(0)
		same(t, what, down(j), api.ErrDown)
		shut(t, j, r, len(form("one")))
		r.Crash(len(form("one")), nil)
		shut(t, j, r, len(form("one")))
		other := opened(t, r, "one")
		shut(t, j, r, len(form("one")))
		same(t, "Append of one that was opened again", other.Append([]byte("three")), api.OK)
		same(t, "Sync", other.Sync(), api.OK)
		opened(t, r, "one", "three")
	}
}

// A journal that was told of no ErrDown isn't closed, whatever the reel did.
func TestNotClosedUnlessTold(t *testing.T) {
	r := reel.New(100)
	j := opened(t, r)
	same(t, "Append", j.Append([]byte("one")), api.OK)
	r.Arm(0)
	r.Sync()
	r.Crash(100, nil)
	same(t, "Append", j.Append([]byte("two")), api.OK)
	same(t, "Sync", j.Sync(), api.OK)
	holds(t, j, r, "one", "two")
}

// Two journals on two reels know nothing of one another.
func TestTwoJournals(t *testing.T) {
	r := made(t, 100, form("one"), 0)
	c := r.Clone()
	j, k := opened(t, r, "one"), opened(t, c, "one")
	c.Arm(0)
	same(t, "Append", k.Append([]byte("two")), api.ErrDown)
	same(t, "Append", j.Append([]byte("three")), api.OK)
	holds(t, j, r, "one", "three")
	shut(t, k, c, len(form("one")))
}
