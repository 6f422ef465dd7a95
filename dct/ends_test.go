package dct_test

import (
	"math"
	"testing"

	"scumble/dct"
)

// Of such numbers nothing is promised but that the calls end.
func TestCallsEndAtAllNumbers(t *testing.T) {
	wild := []int{math.MinInt, math.MinInt + 1, math.MinInt / 2, -1 << 41, -1 << 32, -256, -2, -1, 0, 1, 2, 255, 256, 1 << 32, 1 << 41, math.MaxInt / 2, math.MaxInt - 1, math.MaxInt}
	for i, a := range wild {
		dct.Forward(all(a))
		dct.Back(all(a))
		var drawn [64]int
		for j := range drawn {
			drawn[j] = wild[(i*j+j)%len(wild)]
		}
		dct.Forward(drawn)
		dct.Back(drawn)
		dct.Steps(a, false)
		dct.Steps(a, true)
		for _, b := range wild {
			dct.InSteps(a, b)
			for _, c := range wild {
				dct.Bright([3]int{a, b, c})
				dct.Colour([3]int{a, b, c})
			}
		}
	}
}
