package flate_test

import (
	"math"
	"slices"
	"strings"
	"testing"

	"scumble/api"
)

// some are lengths of a few literals (a, b, the end, the copies of 3 and 258)
// and of the distances 1, 2 and 5.
func some() (literals []int, distances []int) {
	return listed(286, [2]int{'a', 1}, [2]int{'b', 2}, [2]int{256, 4}, [2]int{257, 4}, [2]int{285, 3}),
		listed(5, [2]int{0, 1}, [2]int{1, 2}, [2]int{4, 2})
}

// same is a list of so many equal numbers.
func same(times int, n int) []int { return slices.Repeat([]int{n}, times) }

func TestToldCodes(t *testing.T) {
	literals, distances := some()
	k := toldBook(literals, distances)
	d := (&draft{}).told(1, literals, distances).text(k, "abba").end(k)
	inflates(t, d.bytes(), "abba")
	d = (&draft{}).told(0, literals, distances).text(k, "ab").copy(k, 258, 2).copy(k, 3, 1).copy(k, 3, 5).copy(k, 3, 6).end(k)
	d.plain(0, "xyz").told(1, literals, distances).copy(k, 3, 2).end(k)
	text := copied(copied(copied(copied("ab", 258, 2), 3, 1), 3, 5), 3, 6)
	inflates(t, d.bytes(), copied(text+"xyz", 3, 2))
}

// As few lengths as can be told, and as many.
func TestToldCodesOfEachSize(t *testing.T) {
	for _, n := range [][2]int{{257, 1}, {257, 30}, {286, 1}, {286, 30}, {270, 17}} {
		literals, distances := listed(n[0], [2]int{'a', 1}, [2]int{256, 1}), listed(n[1], [2]int{n[1] - 1, 1})
		k := toldBook(literals, distances)
		inflates(t, (&draft{}).told(1, literals, distances).text(k, "aaa").end(k).bytes(), "aaa")
	}
	d := &draw{6}
	for range 20 {
		literals, distances := d.whole(286), d.whole(30)
		k := toldBook(literals, distances)
		text := d.text(300, 256)
		b := (&draft{}).told(1, literals, distances).text(k, string(text)).copy(k, 200, 300).copy(k, 77, 5).end(k).bytes()
		inflates(t, b, copied(copied(string(text), 200, 300), 77, 5))
	}
}

func TestTooManyLengths(t *testing.T) {
	for _, n := range [][2]int{{30, 0}, {31, 0}, {0, 30}, {0, 31}, {31, 31}, {29, 30}, {30, 29}} {
		for _, own := range []int{0, 15} {
			failsAt(t, (&draft{}).begin(1, 2).num(n[0], 5).num(n[1], 5).num(own, 4), 9, api.ErrForm)
		}
		fails(t, lacking((&draft{}).begin(1, 2).num(n[0], 5).num(n[1], 5)), 9, api.ErrEnd)
	}
}

// The code of lengths must be whole: a single one of its symbols isn't.
func TestOwnLengthsThatAreWrong(t *testing.T) {
	wrong := [][]int{
		same(19, 0), listed(19, [2]int{0, 1}), listed(19, [2]int{15, 1}), listed(19, [2]int{16, 1}), listed(19, [2]int{18, 1}),
		listed(19, [2]int{0, 7}), listed(19, [2]int{0, 1}, [2]int{1, 2}), listed(19, [2]int{0, 1}, [2]int{1, 1}, [2]int{15, 7}),
		same(19, 5), same(19, 4), same(19, 1), same(19, 7),
	}
	for i := range anyOwn {
		for _, n := range []int{anyOwn[i] - 1, anyOwn[i] + 1, 0} {
			own := slices.Clone(anyOwn)
			own[i] = n
			wrong = append(wrong, own)
		}
	}
	for _, own := range wrong {
		failsAt(t, (&draft{}).begin(1, 2).num(0, 5).num(0, 5).own(own), 9, api.ErrCode)
	}
}

// The lengths of the code of lengths that aren't told are 0: all counts of them
// from 4 on, of which the told ones are whole or not.
func TestFewOwnLengths(t *testing.T) {
	for n := 4; n <= 19; n++ {
		for _, pair := range [][2]int{{0, 3}, {n - 2, n - 1}, {n - 1, 2}} {
			d := (&draft{}).begin(1, 2).num(0, 5).num(0, 5).num(n-4, 4)
			for i := range n {
				length := 0
				if i == pair[0] || i == pair[1] {
					length = 1
				}
				d.num(length, 3)
			}
			agrees(t, append(d.bytes(), 0, 0, 0, 0), 9)
			agrees(t, append(d.bytes(), 255, 255, 255, 255), 9)
		}
		d := (&draft{}).begin(1, 2).num(0, 5).num(0, 5).num(n-4, 4)
		for range n {
			d.num(0, 3)
		}
		failsAt(t, d, 9, api.ErrCode)
	}
}

// Of literals and distances the lengths are whole, or a single one of 1; of
// distances there may be none. All of both are read ahead.
func TestLengthsThatAreWrong(t *testing.T) {
	literals, distances := some()
	for _, wrong := range [][]int{
		listed(257), listed(286), listed(257, [2]int{256, 2}), listed(257, [2]int{256, 15}), listed(257, [2]int{'a', 2}, [2]int{256, 2}),
		listed(257, [2]int{'a', 1}, [2]int{256, 2}), listed(257, [2]int{'a', 1}, [2]int{'b', 1}, [2]int{256, 1}),
		listed(257, [2]int{'a', 1}, [2]int{'b', 1}, [2]int{256, 15}), same(257, 1), same(257, 8), same(257, 9), same(286, 15), same(286, 8),
	} {
		for _, other := range [][]int{distances, listed(1), listed(1, [2]int{0, 1}), same(30, 1)} {
			failsAt(t, (&draft{}).told(1, wrong, other), 9, api.ErrCode)
		}
	}
	for _, wrong := range [][]int{
		listed(1, [2]int{0, 2}), listed(30, [2]int{29, 15}), listed(2, [2]int{0, 2}, [2]int{1, 2}), listed(3, [2]int{0, 1}, [2]int{2, 2}),
		same(3, 1), listed(30, [2]int{0, 1}, [2]int{28, 1}, [2]int{29, 15}), same(30, 4), same(30, 5), same(30, 15),
	} {
		for _, other := range [][]int{literals, listed(257, [2]int{256, 1}), listed(257)} {
			failsAt(t, (&draft{}).told(1, other, wrong), 9, api.ErrCode)
		}
	}
}

func TestASingleLiteral(t *testing.T) {
	for _, distances := range [][]int{listed(1), listed(30), listed(1, [2]int{0, 1}), listed(30, [2]int{29, 1}), same(2, 1)} {
		literals := listed(257, [2]int{256, 1})
		inflates(t, (&draft{}).told(1, literals, distances).code("0").bytes(), "")
		failsAt(t, (&draft{}).told(1, literals, distances).code("1"), 9, api.ErrCode)
	}
	// Without an end's code a block has no end.
	d := (&draft{}).told(1, listed(257, [2]int{'a', 1}), listed(1)).code("000")
	b := append(d.bytes(), 0)
	fails(t, b, math.MaxInt, api.ErrEnd)
	fails(t, b, 5, api.ErrBig)
	failsAt(t, (&draft{}).told(1, listed(257, [2]int{'a', 1}), listed(1)).code("0001"), 5, api.ErrCode)
}

func TestASingleDistance(t *testing.T) {
	literals, _ := some()
	for _, s := range []int{0, 1, 4} {
		k := toldBook(literals, listed(5, [2]int{s, 1}))
		d := (&draft{}).told(1, literals, listed(5, [2]int{s, 1})).text(k, "ababab").copy(k, 3, distanceBases[s]).end(k)
		inflates(t, d.bytes(), copied("ababab", 3, distanceBases[s]))
		failsAt(t, (&draft{}).told(1, literals, listed(5, [2]int{s, 1})).text(k, "a").code(k.literals[257]).code("1"), 9, api.ErrCode)
	}
}

func TestNoDistances(t *testing.T) {
	literals, _ := some()
	for _, n := range []int{1, 2, 30} {
		k := toldBook(literals, listed(n))
		inflates(t, (&draft{}).told(1, literals, listed(n)).text(k, "abab").end(k).bytes(), "abab")
		for _, bit := range []string{"0", "1"} {
			failsAt(t, (&draft{}).told(1, literals, listed(n)).text(k, "a").code(k.literals[257]).code(bit), 1, api.ErrCode)
		}
	}
}

// Runs of each length, the other lengths one by one.
func TestRuns(t *testing.T) {
	for symbol, edges := range map[int][2]int{17: {3, 10}, 18: {11, 138}} {
		for n := edges[0]; n <= edges[1]; n++ {
			d := (&draft{}).open(1, 257, 1).lengths(same(97, 0)...).lengths(1)
			d.run(symbol, n).lengths(same(256-98-n, 0)...).lengths(1, 0)
			inflates(t, d.code("001").bytes(), "aa")
		}
	}
	literals := listed(257)
	for i := range 15 {
		literals['a'+i], literals[256] = 4, 4
	}
	k := toldBook(literals, listed(1))
	for n := 3; n <= 6; n++ {
		d := (&draft{}).open(1, 257, 1).lengths(literals[:98]...).run(16, n).lengths(literals[98+n:]...).lengths(0)
		inflates(t, d.text(k, "abcdefghijklmno").end(k).bytes(), "abcdefghijklmno")
		d = (&draft{}).open(1, 257, 1).lengths(0).run(16, n).lengths(literals[1+n:]...).lengths(0)
		inflates(t, d.text(k, "onmlkjihgfedcba").end(k).bytes(), "onmlkjihgfedcba")
	}
}

// A run reaches from literals into distances, and says what stood ahead there.
func TestRunsFromLiteralsIntoDistances(t *testing.T) {
	literals := listed(258, [2]int{'a', 2}, [2]int{'b', 2}, [2]int{256, 2}, [2]int{257, 2})
	k := toldBook(literals, same(4, 2))
	d := (&draft{}).open(1, 258, 4).lengths(literals[:257]...).run(16, 5)
	inflates(t, d.text(k, "ab").copy(k, 3, 2).end(k).bytes(), "ababa")
	d = (&draft{}).open(1, 258, 4).lengths(literals...).run(16, 4)
	inflates(t, d.text(k, "ab").copy(k, 3, 2).end(k).bytes(), "ababa")
	// The literals 258 to 260 and all distances have no code.
	d = (&draft{}).open(1, 261, 7).lengths(literals...).run(17, 10)
	inflates(t, d.text(k, "ab").end(k).bytes(), "ab")
	d = (&draft{}).open(1, 261, 9).lengths(literals...).run(18, 12)
	inflates(t, d.text(k, "ab").end(k).bytes(), "ab")
	// Behind noughts a run of what is ahead is noughts.
	d = (&draft{}).open(1, 258, 5).lengths(literals...).lengths(0).run(16, 4)
	inflates(t, d.text(k, "ab").end(k).bytes(), "ab")
	d = (&draft{}).open(1, 261, 20).lengths(literals...).run(17, 10).run(16, 6).run(16, 6).lengths(0)
	inflates(t, d.text(k, "ab").end(k).bytes(), "ab")
}

func TestARunWithoutALengthAhead(t *testing.T) {
	for times := 3; times <= 6; times++ {
		failsAt(t, (&draft{}).open(1, 257, 1).run(16, times), 9, api.ErrCode)
	}
	// Here there is one, but no more.
	fails(t, (&draft{}).open(1, 257, 1).lengths(1).run(16, 3).bytes(), 9, api.ErrEnd)
}

func TestRunsOfMoreThanThereMayBe(t *testing.T) {
	for symbol, edges := range map[int][2]int{16: {3, 6}, 17: {3, 10}, 18: {11, 138}} {
		for _, times := range []int{edges[0], edges[0] + 1, edges[1]} {
			for _, n := range [][2]int{{257, 1}, {270, 5}, {286, 30}} {
				all := listed(n[0]+n[1], [2]int{'a', 1}, [2]int{256, 1})
				ahead := all[:len(all)-times+1]
				failsAt(t, (&draft{}).open(1, n[0], n[1]).lengths(ahead...).run(symbol, times), 9, api.ErrCode)
				failsAt(t, (&draft{}).open(1, n[0], n[1]).lengths(all[:len(all)-1]...).run(symbol, times), 9, api.ErrCode)
			}
		}
	}
	// Just as many are none too many.
	all := listed(258, [2]int{'a', 1}, [2]int{250, 1})
	k := toldBook(all[:257], all[257:])
	d := (&draft{}).open(1, 257, 1).lengths(all[:251]...).run(17, 7).text(k, "a")
	fails(t, append(d.bytes(), 0, 0), math.MaxInt, api.ErrEnd)
	failsAt(t, (&draft{}).open(1, 257, 1).lengths(listed(247, [2]int{'a', 1})...).run(18, 11).code("1"), 9, api.ErrCode)
}

// Codes of each length from 1 to 15.
func TestLongCodes(t *testing.T) {
	literals := listed(257, [2]int{256, 15})
	for n := 1; n <= 15; n++ {
		literals['a'+n] = n
	}
	k := toldBook(literals, listed(1))
	text := "bcdefghijklmnopponmlkjihgfedcb"
	inflates(t, (&draft{}).told(1, literals, listed(1)).text(k, text).end(k).bytes(), text)
	distances := listed(30, [2]int{29, 15})
	for n := 1; n <= 15; n++ {
		distances[n-1] = n
	}
	literals = listed(258, [2]int{'a', 1}, [2]int{257, 2}, [2]int{256, 2})
	k = toldBook(literals, distances)
	long := strings.Repeat("a", 32768)
	d := (&draft{}).plain(0, long).told(1, literals, distances).text(k, "a").copy(k, 3, 129).copy(k, 3, 32768).copy(k, 3, 24577).copy(k, 3, 1)
	inflates(t, d.end(k).bytes(), long+strings.Repeat("a", 13))
}

// spread are n lengths of which some are those of codes that are whole.
func (r *draw) spread(n int, some int) []int {
	all := make([]int, n)
	for _, length := range r.whole(some) {
		at := r.next(n)
		for all[at] != 0 {
			at = r.next(n)
		}
		all[at] = length
	}
	return all
}

// drawn lays lengths, now one by one, now as runs.
func (d *draft) drawn(r *draw, all []int) *draft {
	for at := 0; at < len(all); {
		n := 1
		for at+n < len(all) && all[at+n] == all[at] {
			n++
		}
		switch way := r.next(4); {
		case way < 2 && at > 0 && all[at] == all[at-1] && n >= 3:
			n = min(n, 3+r.next(4))
			d.run(16, n)
		case way < 3 && all[at] == 0 && n >= 11:
			n = min(n, 11+r.next(128))
			d.run(18, n)
		case way < 3 && all[at] == 0 && n >= 3:
			n = min(n, 3+r.next(8))
			d.run(17, n)
		default:
			n = 1
			d.lengths(all[at])
		}
		at += n
	}
	return d
}

// Heads that are right or nearly so, and behind them any bits, against the
// plain way.
func TestInflateOfDrawnHeads(t *testing.T) {
	r := &draw{7}
	faults := map[api.Errno]int{}
	for range 1500 {
		literals, distances := 257+r.next(30), 1+r.next(30)
		all := slices.Concat(r.spread(literals, 2+r.next(256)), r.spread(distances, 1+r.next(distances)))
		if r.next(4) == 0 {
			all[r.next(len(all))] = r.next(16)
		}
		d := (&draft{}).plain(0, "abcdef").open(1, literals, distances).drawn(r, all)
		for range r.next(60) {
			d.num(r.next(256), 8)
		}
		_, e := agrees(t, d.bytes(), r.next(400))
		faults[e]++
	}
	for _, e := range []api.Errno{api.OK, api.ErrEnd, api.ErrCode, api.ErrData, api.ErrBig} {
		if faults[e] == 0 {
			t.Errorf("no stream had %d", e)
		}
	}
}
