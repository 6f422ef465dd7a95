package lz_test

import (
	"bytes"
	"math"
	"slices"
	"strings"
	"testing"

	"scumble/api"
	"scumble/lz"
)

// efforts are some from 1 on.
var efforts = []int{1, 2, 3, 4, 9, 100, math.MaxInt}

// found tells where Find breaks its promise for an effort from 1 on, if stood
// is what stoodAhead tells of b.
func found(t *testing.T, b []byte, effort int, stood []bool) {
	t.Helper()
	tokens := lz.Find(b, effort)
	back, e := lz.Bytes(tokens, len(b))
	if e != api.OK || !bytes.Equal(back, b) {
		t.Fatalf("effort %d: %d bytes became %d, %d", effort, len(b), len(back), e)
	}
	at, row := 0, 0
	for _, token := range tokens {
		if token.Length != 0 && token.Literal != 0 || token.Length == 0 && token.Distance != 0 {
			t.Fatalf("effort %d: %v at %d", effort, token, at)
		}
		if token.Length == 0 && stood[at] {
			row++
		} else {
			row = 0
		}
		if row == 3 {
			t.Fatalf("effort %d: three literals in a row that stood ahead, the last one at %d of %d", effort, at, len(b))
		}
		at += max(token.Length, 1)
	}
}

func foundAll(t *testing.T, b []byte) {
	t.Helper()
	stood := stoodAhead(b)
	for _, effort := range efforts {
		found(t, b, effort, stood)
	}
}

func TestFindOfNothing(t *testing.T) {
	for _, b := range [][]byte{nil, {}} {
		for _, effort := range append(efforts, 0, -1, math.MinInt) {
			if tokens := lz.Find(b, effort); len(tokens) != 0 {
				t.Errorf("%d: %v", effort, tokens)
			}
		}
	}
}

func TestFindWithoutEffort(t *testing.T) {
	d := &draw{6}
	for _, b := range [][]byte{{0}, {255}, []byte("aaaaaaaaaaaa"), []byte("abcabcabc"), make([]byte, 1000), d.text(1000, 256), d.text(70000, 2)} {
		for _, effort := range []int{0, -1, -2, -1 << 40, math.MinInt} {
			if tokens := lz.Find(b, effort); !slices.Equal(tokens, ones(b)) {
				t.Errorf("%d: %d tokens of %d bytes", effort, len(tokens), len(b))
			}
		}
	}
}

func TestFindOfAllShortTexts(t *testing.T) {
	for n := range 13 {
		for _, text := range texts(n, "ab") {
			foundAll(t, []byte(text))
		}
	}
	for n := range 9 {
		for _, text := range texts(n, "abc") {
			foundAll(t, []byte(text))
		}
	}
}

// What never stood ahead is told by literals.
func TestFindWhereNothingStoodAhead(t *testing.T) {
	b := make([]byte, 256)
	for i := range b {
		b[i] = byte(i)
	}
	foundAll(t, b)
	for _, effort := range efforts {
		if tokens := lz.Find(b, effort); !slices.Equal(tokens, ones(b)) {
			t.Errorf("%d: %v", effort, tokens)
		}
	}
}

func TestFindOfRuns(t *testing.T) {
	for _, n := range []int{1, 2, 3, 4, 5, 6, 257, 258, 259, 260, 261, 262, 263, 515, 516, 517, 518, 519, 10000, 70000} {
		for _, piece := range []string{"\x00", "\xff", "ab", "abc", "abcd", "a long piece of text, "} {
			text := strings.Repeat(piece, n/len(piece)+1)[:n]
			foundAll(t, []byte(text))
			for _, effort := range efforts {
				if tokens := lz.Find([]byte(text), effort); len(tokens) > len(piece)+n/258+3 {
					t.Errorf("%d bytes of %q: %d tokens", n, piece, len(tokens))
				}
			}
		}
	}
}

// A piece stands again just as far away as a copy may reach, nearer, and
// farther, with nothing else that stands twice.
func TestFindAtTheFarthest(t *testing.T) {
	for _, distance := range []int{32000, 32766, 32767, 32768, 32769, 32770, 33000} {
		for _, n := range []int{3, 4, 5, 6, 7, 120} {
			piece := make([]byte, n)
			for i := range piece {
				piece[i] = byte(128 + i)
			}
			filler := make([]byte, distance-n)
			for i := range filler {
				filler[i] = byte([]int{i / 3 % 40, 40 + i/120%40, 80 + i/4800}[i%3])
			}
			b := slices.Concat(piece, filler, piece)
			again := 0
			for _, stood := range stoodAhead(b) {
				if stood {
					again++
				}
			}
			if distance <= 32768 && again != n-2 || distance > 32768 && again != 0 {
				t.Fatalf("%d bytes at %d: %d stood ahead", n, distance, again)
			}
			foundAll(t, b)
			foundAll(t, slices.Concat([]byte{253}, b, []byte{254, 255}))
		}
	}
}

func TestFindOfDrawnTexts(t *testing.T) {
	d := &draw{7}
	for _, letters := range []int{1, 2, 3, 4, 8, 16, 64, 256} {
		for range 60 {
			foundAll(t, d.text(d.next(600), letters))
		}
		foundAll(t, d.text(100000, letters))
	}
}

func TestFindOfWhatStandsAgain(t *testing.T) {
	d := &draw{8}
	for _, letters := range []int{2, 16, 256} {
		for _, most := range []int{3, 5, 20, 300} {
			for _, far := range []int{10, 1000, 32768, 40000} {
				foundAll(t, d.again(50000, letters, most, far))
			}
		}
	}
}

// Longer and longer pieces stand again, each from one byte on: to pass over a
// copy for a longer one has an end.
func TestFindWhereLongerOnesFollow(t *testing.T) {
	word := (&draw{9}).text(60, 100)
	var b []byte
	for n := range 40 {
		b = slices.Concat(b, []byte{byte(100 + n)}, word[n:min(2*n+5, len(word))])
	}
	foundAll(t, slices.Concat(b, []byte{200}, word, []byte{201}, word[3:]))
}

// The same three bytes stand at very many places, with pieces behind them that
// are much alike: however great the effort is, not all of them are tried.
func TestFindEndsSoon(t *testing.T) {
	d := &draw{10}
	b := make([]byte, 1<<20)
	for i := range b {
		b[i] = 'a'
		if i%250 == 249 {
			b[i] = byte(d.next(256))
		}
	}
	for _, b := range [][]byte{b, d.text(1<<20, 2)} {
		found(t, b, math.MaxInt, stoodAhead(b))
	}
}

func TestFindHangsOnItsArgumentsAlone(t *testing.T) {
	d := &draw{11}
	b := d.again(20000, 4, 20, 32768)
	for _, effort := range append(efforts, 0) {
		first := lz.Find(b, effort)
		lz.Find(d.text(1000, 3), effort+1)
		if !slices.Equal(first, lz.Find(slices.Clone(b), effort)) {
			t.Errorf("%d: not the same twice", effort)
		}
	}
}

// Behind the bytes that are handed in stand others that are no part of them.
func TestFindSharesNothing(t *testing.T) {
	for _, effort := range append(efforts, 0) {
		room := []byte("abcabcabcabcabcabc")
		first := lz.Find(room[:8], effort)
		if string(room) != "abcabcabcabcabcabc" {
			t.Errorf("bytes became %q", room)
		}
		clear(room)
		second := lz.Find([]byte("abcabcab"), effort)
		if !slices.Equal(first, second) {
			t.Errorf("%d: %v, %v", effort, first, second)
		}
		clear(first[:cap(first)])
		bring(t, second, []byte("abcabcab"))
	}
}
