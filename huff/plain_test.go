package huff_test

import (
	"slices"
	"strings"
	"testing"
)

// draw is a row of numbers that looks without a rule, alike at each run.
type draw struct{ state uint32 }

func (d *draw) next(n int) int {
	d.state = d.state*1664525 + 1013904223
	return int(d.state>>8) % n
}

func (d *draw) list(n int, below int) []int {
	list := make([]int, n)
	for i := range list {
		list[i] = d.next(below)
	}
	return list
}

// lists are all lists of up to most of these numbers.
func lists(most int, numbers ...int) [][]int {
	all := [][]int{nil}
	for from := 0; most > 0; most-- {
		end := len(all)
		for _, list := range all[from:end] {
			for _, n := range numbers {
				all = append(all, append(slices.Clone(list), n))
			}
		}
		from = end
	}
	return all
}

// same is a list of so many equal numbers.
func same(times int, n int) []int { return slices.Repeat([]int{n}, times) }

// plainWeight adds up the room that lengths take of 2^most.
func plainWeight(lengths []int, most int) int {
	sum := 0
	for _, n := range lengths {
		if n > 0 {
			room := 1
			for range most - n {
				room *= 2
			}
			sum += room
		}
	}
	return sum
}

// plainCodes gives each symbol its code as a text of 0 and 1: of one length
// the first code lies behind all shorter ones, the others behind it.
func plainCodes(lengths []int) []string {
	texts := make([]string, len(lengths))
	next := 0
	for n := 1; n <= 16; n++ {
		next *= 2
		for s, length := range lengths {
			if length == n {
				texts[s] = binary(next, n)
				next++
			}
		}
	}
	return texts
}

// binary are a number's lowest n bits, the highest first.
func binary(v int, n int) string {
	text := ""
	for range n {
		text = string(rune('0'+v%2)) + text
		v /= 2
	}
	return text
}

// leastCost is what lengths cost that cost least: it tries all lengths of each
// symbol with all room that is left of 2^most.
func leastCost(counts []int, most int) int {
	const never = 1 << 62
	least := same(1<<most+1, never)
	least[0] = 0
	for _, c := range counts {
		if c == 0 {
			continue
		}
		more := same(1<<most+1, never)
		for used, cost := range least {
			if cost == never {
				continue
			}
			for n := 1; n <= most; n++ {
				if to := used + 1<<(most-n); to < len(more) {
					more[to] = min(more[to], cost+c*n)
				}
			}
		}
		least = more
	}
	return slices.Min(least)
}

// oneBeginsAnother tells two codes of which one is the other's beginning.
func oneBeginsAnother(t *testing.T, texts []string) {
	t.Helper()
	for i, a := range texts {
		for j, b := range texts {
			if i != j && a != "" && strings.HasPrefix(b, a) {
				t.Errorf("%s of %d begins %s of %d", a, i, b, j)
			}
		}
	}
}
