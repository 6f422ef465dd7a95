package reel_test

import (
	"bytes"
	"math"
	"testing"

	"scumble/api"
	"scumble/reel"
)

// made is a reel with these bytes, the first so many of them safe.
func made(t *testing.T, capacity int, text string, safe int) *reel.Reel {
	t.Helper()
	r := reel.New(capacity)
	if r == nil {
		t.Fatalf("New(%d) is nil", capacity)
	}
	want(t, "Append", r.Append([]byte(text[:safe])), api.OK)
	want(t, "Sync", r.Sync(), api.OK)
	want(t, "Append", r.Append([]byte(text[safe:])), api.OK)
	holds(t, r, text, safe)
	return r
}

func want(t *testing.T, call string, got api.Errno, e api.Errno) {
	t.Helper()
	if got != e {
		t.Errorf("%s: %d, not %d", call, got, e)
	}
}

// holds tells where a reel isn't up with just these bytes and so many safe.
func holds(t *testing.T, r *reel.Reel, text string, safe int) {
	t.Helper()
	if r.Down() {
		t.Errorf("down, not up with %q", text)
		return
	}
	b, e := r.Read(0, r.Size())
	if e != api.OK || string(b) != text || r.Size() != len(text) || r.Safe() != safe {
		t.Errorf("%d, %q, Size %d, Safe %d; not %q, Safe %d", e, b, r.Size(), r.Safe(), text, safe)
	}
}

// isDown tells where a reel isn't down with these numbers of bytes, or does
// anything all the same.
func isDown(t *testing.T, r *reel.Reel, size int, safe int) {
	t.Helper()
	if !r.Down() {
		t.Error("not down")
	}
	want(t, "Append", r.Append([]byte("x")), api.ErrDown)
	want(t, "Append of nothing", r.Append(nil), api.ErrDown)
	want(t, "Sync", r.Sync(), api.ErrDown)
	want(t, "Cut", r.Cut(0), api.ErrDown)
	for _, n := range []int{0, 1, -1} {
		if b, e := r.Read(0, n); e != api.ErrDown || len(b) != 0 {
			t.Errorf("Read: %q, %d", b, e)
		}
	}
	if r.Size() != size || r.Safe() != safe {
		t.Errorf("Size %d, Safe %d, not %d, %d", r.Size(), r.Safe(), size, safe)
	}
}

func TestNewOfEachCapacity(t *testing.T) {
	for _, n := range []int{math.MinInt, -1, api.MaxReel + 1, math.MaxInt} {
		if reel.New(n) != nil {
			t.Errorf("New(%d) is a reel", n)
		}
	}
	for _, n := range []int{0, 1, api.MaxReel - 1, api.MaxReel} {
		r := reel.New(n)
		if r == nil {
			t.Fatalf("New(%d) is nil", n)
		}
		holds(t, r, "", 0)
		for range 3 {
			want(t, "Sync of one that isn't armed", r.Sync(), api.OK)
		}
		full := make([]byte, n)
		want(t, "Append of one more", r.Append(append(full, 1)), api.ErrFull)
		want(t, "Append of all", r.Append(full), api.OK)
		want(t, "Append to a full one", r.Append([]byte{1}), api.ErrFull)
		want(t, "Append of nothing", r.Append(nil), api.OK)
		if r.Size() != n || r.Safe() != 0 {
			t.Errorf("Size %d, Safe %d, not %d, 0", r.Size(), r.Safe(), n)
		}
	}
}

func TestSizeAndSafe(t *testing.T) {
	r := made(t, 10, "abcdef", 4)
	want(t, "Sync", r.Sync(), api.OK)
	holds(t, r, "abcdef", 6)
	want(t, "Append", r.Append([]byte("gh")), api.OK)
	holds(t, r, "abcdefgh", 6)
}

func TestAppendFillsToTheCapacity(t *testing.T) {
	r := made(t, 5, "abc", 1)
	want(t, "Append", r.Append([]byte("def")), api.ErrFull)
	holds(t, r, "abc", 1)
	want(t, "Append", r.Append([]byte("de")), api.OK)
	holds(t, r, "abcde", 1)
	want(t, "Append", r.Append([]byte("f")), api.ErrFull)
	want(t, "Append of nothing", r.Append([]byte{}), api.OK)
	want(t, "Cut", r.Cut(4), api.OK)
	want(t, "Append into the room of a Cut", r.Append([]byte("E")), api.OK)
	holds(t, r, "abcdE", 1)
	r.Crash(0, nil)
	want(t, "Append into the room of a Crash", r.Append([]byte("wxyz")), api.OK)
	want(t, "Append", r.Append([]byte("f")), api.ErrFull)
	holds(t, r, "awxyz", 1)
}

func TestAppendKeepsNothingOfItsArgument(t *testing.T) {
	r := reel.New(20)
	room := []byte("abc.......")
	given := room[:3]
	want(t, "Append", r.Append(given), api.OK)
	want(t, "Append", r.Append([]byte("def")), api.OK)
	if string(room) != "abc......." {
		t.Errorf("the argument is %q now", room)
	}
	copy(room, "xxxxxxxxxx")
	holds(t, r, "abcdef", 0)
}

func TestCut(t *testing.T) {
	for _, x := range []struct {
		n    int
		text string
		safe int
	}{{0, "", 0}, {1, "a", 1}, {3, "abc", 3}, {4, "abcd", 4}, {5, "abcde", 4}, {6, "abcdef", 4}} {
		r := made(t, 10, "abcdef", 4)
		want(t, "Cut", r.Cut(x.n), api.OK)
		holds(t, r, x.text, x.safe)
	}
	r := made(t, 10, "abcdef", 4)
	for _, n := range []int{math.MinInt, -1, 7, math.MaxInt} {
		want(t, "Cut", r.Cut(n), api.ErrRange)
		holds(t, r, "abcdef", 4)
	}
}

// What was cut off below the safe bytes stays away through a crash, and what
// comes in its place is not safe by it.
func TestCutIsForGood(t *testing.T) {
	r := made(t, 10, "abcdef", 4)
	want(t, "Cut", r.Cut(2), api.OK)
	c := r.Clone()
	c.Crash(9, nil)
	holds(t, c, "ab", 2)
	want(t, "Append", r.Append([]byte("XYZ")), api.OK)
	holds(t, r, "abXYZ", 2)
	r.Crash(1, nil)
	holds(t, r, "abX", 3)
}

func TestRead(t *testing.T) {
	r := made(t, 10, "abcdef", 2)
	for _, x := range []struct {
		at, n int
		text  string
	}{{0, 6, "abcdef"}, {0, 0, ""}, {6, 0, ""}, {5, 1, "f"}, {1, 3, "bcd"}, {0, 1, "a"}} {
		if b, e := r.Read(x.at, x.n); e != api.OK || string(b) != x.text {
			t.Errorf("Read(%d, %d): %q, %d", x.at, x.n, b, e)
		}
	}
	most, least := math.MaxInt, math.MinInt
	for _, x := range [][2]int{{0, 7}, {6, 1}, {7, 0}, {7, -1}, {-1, 1}, {-1, 0}, {0, -1}, {3, -3}, {most, 1}, {1, most},
		{most, most}, {most, 0}, {0, most}, {least, 0}, {0, least}, {least, least}, {least, most}, {most, least}} {
		if b, e := r.Read(x[0], x[1]); e != api.ErrRange || len(b) != 0 {
			t.Errorf("Read(%d, %d): %q, %d", x[0], x[1], b, e)
		}
	}
	holds(t, r, "abcdef", 2)
}

func TestReadTellsNewMemory(t *testing.T) {
	r := made(t, 10, "abcdef", 2)
	one, _ := r.Read(1, 3)
	two, _ := r.Read(1, 3)
	spoil(one)
	if string(two) != "bcd" {
		t.Errorf("two answers share: %q", two)
	}
	holds(t, r, "abcdef", 2)
	want(t, "Append", r.Append([]byte("gh")), api.OK)
	holds(t, r, "abcdefgh", 2)
	kept, _ := r.Read(0, 8)
	r.Crash(3, []byte{1, 2, 3})
	if string(kept) != "abcdefgh" {
		t.Errorf("the answer is %q now", kept)
	}
}

// spoil writes over a list and its spare room.
func spoil(b []byte) {
	b = b[:cap(b)]
	for i := range b {
		b[i] = '#'
	}
}

func TestArmCountsEachCallThatIsDone(t *testing.T) {
	r := made(t, 10, "abcdef", 4)
	r.Arm(4)
	want(t, "Append", r.Append([]byte("g")), api.OK)
	want(t, "Append of nothing", r.Append(nil), api.OK)
	want(t, "Sync", r.Sync(), api.OK)
	want(t, "Cut", r.Cut(5), api.OK)
	holds(t, r, "abcde", 5)
	want(t, "Append", r.Append([]byte("xyz")), api.ErrDown)
	isDown(t, r, 8, 5)
	r.Crash(9, nil)
	holds(t, r, "abcdexyz", 8)
}

func TestArmPassesOverWhatIsRefusedOrRead(t *testing.T) {
	r := made(t, 10, "abcdef", 4)
	for _, n := range []int{1, 0} {
		r.Arm(n)
		for range 3 {
			want(t, "Append", r.Append([]byte("ghijk")), api.ErrFull)
			want(t, "Cut", r.Cut(-1), api.ErrRange)
			want(t, "Cut", r.Cut(7), api.ErrRange)
			if _, e := r.Read(7, 1); e != api.ErrRange {
				t.Error("Read", e)
			}
			holds(t, r, "abcdef", 4)
		}
	}
	r.Arm(1)
	want(t, "Append", r.Append([]byte("ghijk")), api.ErrFull)
	want(t, "Sync", r.Sync(), api.OK)
	holds(t, r, "abcdef", 6)
	want(t, "Sync", r.Sync(), api.ErrDown)
	isDown(t, r, 6, 6)
}

func TestArmWithNoCallLeft(t *testing.T) {
	r := made(t, 10, "abcdef", 4)
	r.Arm(0)
	holds(t, r, "abcdef", 4)
	whole := r.Clone()
	want(t, "Append", whole.Append([]byte("ghij")), api.ErrDown)
	isDown(t, whole, 10, 4)
	nothing := r.Clone()
	want(t, "Append of nothing", nothing.Append(nil), api.ErrDown)
	isDown(t, nothing, 6, 4)
	synced := r.Clone()
	want(t, "Sync", synced.Sync(), api.ErrDown)
	isDown(t, synced, 6, 4)
	for _, n := range []int{0, 2, 5, 6} {
		cut := r.Clone()
		want(t, "Cut", cut.Cut(n), api.ErrDown)
		isDown(t, cut, 6, 4)
		want(t, "Cut out of range of one that is down", cut.Cut(7), api.ErrDown)
		want(t, "Append above the capacity of one that is down", cut.Append(make([]byte, 11)), api.ErrDown)
		cut.Crash(9, nil)
		holds(t, cut, "abcdef", 6)
	}
}

func TestArmAgain(t *testing.T) {
	for _, n := range []int{-1, -2, math.MinInt, 5, math.MaxInt} {
		r := made(t, 10, "abcdef", 4)
		r.Arm(0)
		r.Arm(n)
		for range 5 {
			want(t, "Sync", r.Sync(), api.OK)
		}
		holds(t, r, "abcdef", 6)
	}
	r := made(t, 10, "abcdef", 4)
	r.Arm(5)
	r.Arm(0)
	want(t, "Sync", r.Sync(), api.ErrDown)
	for _, n := range []int{0, 7, -1} {
		r.Arm(n)
		isDown(t, r, 6, 4)
	}
}

func TestCrashKeeps(t *testing.T) {
	for _, x := range []struct {
		keep   int
		garble string
		want   string
	}{
		{0, "", "abcd"}, {1, "", "abcde"}, {3, "", "abcdefg"}, {4, "", "abcdefgh"}, {5, "", "abcdefgh"},
		{-1, "", "abcd"}, {math.MinInt, "\x01", "abcd"}, {math.MaxInt, "", "abcdefgh"}, {0, "\x01\x01\x01\x01\x01", "abcd"},
		{2, "\x20", "abcdeF"}, {2, "\x00\x20", "abcdeF"}, {2, "\x20\x00", "abcdEf"}, {2, "\x20\x02\x01", "abcdgg"},
		{4, "\x20\x00\x20", "abcdeFgH"}, {9, "\x20\x00", "abcdefGh"}, {4, "\x20\x20\x20\x20\x20\x20\x20\x20\x20", "abcdEFGH"},
		{1, "\x20\x20\x20\x20\x20\x20\x01", "abcdd"}, {4, "\xff\x00\x00\x00", "abcd\x9afgh"},
	} {
		r := made(t, 10, "abcdefgh", 4)
		garble := []byte(x.garble)
		r.Crash(x.keep, garble)
		holds(t, r, x.want, len(x.want))
		if string(garble) != x.garble {
			t.Errorf("Crash(%d, %q) changed its argument to %q", x.keep, x.garble, garble)
		}
	}
}

func TestCrashOfWhatIsSafe(t *testing.T) {
	r := made(t, 10, "abcdef", 6)
	r.Crash(9, []byte{1, 2, 3, 4, 5, 6, 7})
	holds(t, r, "abcdef", 6)
	r.Crash(0, nil)
	holds(t, r, "abcdef", 6)
	r = reel.New(0)
	r.Crash(1, []byte{1})
	holds(t, r, "", 0)
}

func TestCrashDisarmsAndBringsUp(t *testing.T) {
	armed := made(t, 10, "abcdef", 4)
	armed.Arm(0)
	armed.Crash(1, nil)
	down := made(t, 10, "abcdef", 4)
	down.Arm(0)
	want(t, "Append", down.Append([]byte("gh")), api.ErrDown)
	down.Crash(1, nil)
	again := made(t, 10, "abcdef", 4)
	again.Arm(0)
	want(t, "Cut", again.Cut(0), api.ErrDown)
	again.Arm(0)
	again.Crash(1, nil)
	for _, r := range []*reel.Reel{armed, down, again} {
		holds(t, r, "abcde", 5)
		for range 3 {
			want(t, "Append", r.Append([]byte("x")), api.OK)
			want(t, "Sync", r.Sync(), api.OK)
			want(t, "Cut", r.Cut(5), api.OK)
		}
		holds(t, r, "abcde", 5)
	}
}

func TestCloneIsInAllAlike(t *testing.T) {
	r := made(t, 8, "abcdef", 4)
	r.Arm(2)
	for range 2 {
		c := r.Clone()
		holds(t, c, "abcdef", 4)
		want(t, "Append", c.Append([]byte("ghi")), api.ErrFull)
		want(t, "Append", c.Append([]byte("gh")), api.OK)
		want(t, "Cut", c.Cut(7), api.OK)
		want(t, "Sync", c.Sync(), api.ErrDown)
		isDown(t, c, 7, 4)
		isDown(t, c.Clone(), 7, 4)
		holds(t, r, "abcdef", 4)
	}
	empty := reel.New(0).Clone()
	holds(t, empty, "", 0)
	want(t, "Append", empty.Append([]byte("a")), api.ErrFull)
}

func TestCloneSharesNoBytes(t *testing.T) {
	for _, more := range []string{"X", "XY", "XYZ"} {
		r := made(t, 20, "abcdefgh", 4)
		want(t, "Cut", r.Cut(6), api.OK)
		c := r.Clone()
		want(t, "Append", c.Append([]byte("123"[:len(more)])), api.OK)
		want(t, "Append", r.Append([]byte(more)), api.OK)
		holds(t, c, "abcdef"+"123"[:len(more)], 4)
		holds(t, r, "abcdef"+more, 4)
	}
	r := made(t, 20, "abcdef", 4)
	c, d := r.Clone(), r.Clone()
	c.Crash(9, []byte{2, 1})
	holds(t, r, "abcdef", 4)
	holds(t, c, "abcdgg", 6)
	r.Crash(9, []byte{1})
	holds(t, r, "abcdeg", 6)
	holds(t, c, "abcdgg", 6)
	holds(t, d, "abcdef", 4)
}

func TestCloneSharesNoState(t *testing.T) {
	r := made(t, 20, "abcdef", 4)
	c := r.Clone()
	want(t, "Sync", r.Sync(), api.OK)
	r.Arm(0)
	want(t, "Sync", r.Sync(), api.ErrDown)
	holds(t, c, "abcdef", 4)
	want(t, "Append", c.Append([]byte("g")), api.OK)
	want(t, "Cut", c.Cut(1), api.OK)
	c.Arm(-1)
	c.Crash(0, nil)
	holds(t, c, "a", 1)
	isDown(t, r, 6, 6)
}

func TestExampleOfTheChapter(t *testing.T) {
	r := reel.New(10)
	want(t, "Append", r.Append([]byte("abcdef")), api.OK)
	want(t, "Sync", r.Sync(), api.OK)
	want(t, "Append", r.Append([]byte("ghi")), api.OK)
	r.Crash(2, []byte{1})
	holds(t, r, "abcdefgi", 8)
	want(t, "Append", r.Append(bytes.Repeat([]byte("x"), 3)), api.ErrFull)
	holds(t, r, "abcdefgi", 8)
}
