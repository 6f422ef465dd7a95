package dct_test

import (
	"math"
	"strconv"
	"testing"

	"scumble/dct"
)

func TestStepsOfAllQualities(t *testing.T) {
	for quality := 1; quality <= 100; quality++ {
		for _, differences := range []bool{false, true} {
			steps, ok := dct.Steps(quality, differences)
			same(t, "whether there are steps", ok, true)
			same(t, "steps of "+strconv.Itoa(quality), steps, plainSteps(quality, differences))
			for _, n := range steps {
				if n < 1 || n > 255 {
					t.Errorf("a step of %d is %d", quality, n)
				}
			}
		}
	}
}

func TestStepsOfWrongQualities(t *testing.T) {
	for _, quality := range []int{0, -1, -50, 101, 102, 150, 1000, 1 << 32, 1<<32 + 50, math.MinInt, math.MaxInt} {
		for _, differences := range []bool{false, true} {
			steps, ok := dct.Steps(quality, differences)
			same(t, "whether there are steps of "+strconv.Itoa(quality), ok, false)
			same(t, "steps of "+strconv.Itoa(quality), steps, [64]int{})
		}
	}
}

// step is a step of a quality, of what a table has at a place.
func step(t *testing.T, quality int, differences bool, place int, should int) {
	t.Helper()
	steps, _ := dct.Steps(quality, differences)
	same(t, "the step at "+strconv.Itoa(place)+" of "+strconv.Itoa(quality), steps[place], should)
}

func TestStepsByHand(t *testing.T) {
	for _, differences := range []bool{false, true} {
		steps, _ := dct.Steps(50, differences)
		same(t, "the tables themselves", steps, plainTable(differences))
		steps, _ = dct.Steps(100, differences)
		same(t, "of the best", steps, all(1))
		steps, _ = dct.Steps(1, differences)
		same(t, "of the worst", steps, all(255))
	}
	// Rows, not columns: 61 stands in the right upper corner, 72 in the left lower one.
	step(t, 50, false, 7, 61)
	step(t, 50, false, 56, 72)
	step(t, 50, true, 3, 47)
	step(t, 50, true, 4, 99)
	step(t, 50, true, 32, 99)
	step(t, 50, true, 25, 66)
	// Of 49 it is 102 hundredths, for 5000 / 49 is rounded down; of 51 98; of 34 147; of 3 1666.
	step(t, 49, false, 53, 123)
	step(t, 49, false, 0, 16)
	step(t, 51, false, 53, 119)
	step(t, 34, false, 0, 24)
	step(t, 34, false, 53, 178)
	step(t, 3, false, 2, 167)
	step(t, 3, false, 0, 255)
	// Halves are rounded up, the least is 1.
	step(t, 75, false, 1, 6)
	step(t, 75, false, 2, 5)
	step(t, 95, false, 2, 1)
	step(t, 99, false, 2, 1)
	step(t, 99, true, 63, 2)
	step(t, 99, false, 0, 1)
	// The greatest is 255, which some are cut to and others aren't.
	step(t, 20, false, 53, 255)
	step(t, 20, true, 63, 248)
	step(t, 20, false, 45, 255)
	step(t, 20, false, 57, 230)
}

func TestInStepsByHand(t *testing.T) {
	for _, of := range []struct{ f, t, should int }{
		{-25, 10, -3}, {25, 10, 3}, {24, 10, 2}, {-24, 10, -2}, {0, 10, 0}, {4, 10, 0}, {-4, 10, 0}, {5, 10, 1}, {-5, 10, -1},
		{0, 1, 0}, {7, 1, 7}, {-7, 1, -7},
		{1, 2, 1}, {-1, 2, -1}, {3, 2, 2}, {-3, 2, -2},
		{1, 3, 0}, {2, 3, 1}, {-1, 3, 0}, {-2, 3, -1}, {4, 3, 1}, {5, 3, 2},
		{127, 255, 0}, {128, 255, 1}, {-127, 255, 0}, {-128, 255, -1}, {1024, 255, 4}, {-1024, 255, -4},
		{1 << 40, 1, 1 << 40}, {-1 << 40, 1, -1 << 40}, {1 << 40, 3, 366503875925}, {-1 << 40, 3, -366503875925},
		{1 << 40, 1 << 41, 1}, {1 << 40, 1<<41 - 1, 1}, {1 << 40, 1<<41 + 1, 0}, {-1 << 40, 1 << 41, -1}, {-1 << 40, 1<<41 + 2, 0},
		{1 << 40, math.MaxInt, 0}, {-1 << 40, math.MaxInt, 0}, {1 << 40, math.MaxInt - 1, 0},
	} {
		same(t, "InSteps("+strconv.Itoa(of.f)+", "+strconv.Itoa(of.t)+")", dct.InSteps(of.f, of.t), of.should)
	}
}

func TestInStepsOfSmallNumbers(t *testing.T) {
	for step := 1; step <= 260; step++ {
		for f := -1100; f <= 1100; f++ {
			sign := 1
			if f < 0 {
				sign = -1
			}
			should := sign * int(math.Floor((math.Abs(float64(f))+math.Floor(float64(step)/2))/float64(step)))
			if got := dct.InSteps(f, step); got != should {
				t.Fatalf("InSteps(%d, %d) is %d, not %d", f, step, got, should)
			}
		}
	}
}

func TestInStepsOfGreatNumbers(t *testing.T) {
	d := &draw{6}
	edges := []int{1, 2, 3, 4, 255, 1 << 20, 1<<40 - 1, 1 << 40, 1<<40 + 1, 1<<41 - 1, 1 << 41, 1<<41 + 1, 1 << 62, math.MaxInt - 1, math.MaxInt}
	for _, step := range edges {
		for _, n := range []int{0, 1, 2, 127, 128, 1 << 20, 1<<39 - 1, 1 << 39, 1<<40 - 1, 1 << 40} {
			same(t, "InSteps", dct.InSteps(n, step), plainInSteps(n, step))
			same(t, "InSteps", dct.InSteps(-n, step), plainInSteps(-n, step))
		}
	}
	for range 20000 {
		f, step := d.between(1<<40>>d.next(40)), 1+d.next(1<<40>>d.next(40))
		same(t, "InSteps", dct.InSteps(f, step), plainInSteps(f, step))
	}
}
