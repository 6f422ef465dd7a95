package dct_test

import (
	"image/color"
	"testing"

	"scumble/dct"
)

func TestBrightOfTheExample(t *testing.T) {
	same(t, "red", dct.Bright([3]int{255, 0, 0}), [3]int{76, 85, 255})
}

func TestBrightByHand(t *testing.T) {
	for _, of := range []struct{ rgb, ybr [3]int }{
		{[3]int{0, 0, 0}, [3]int{0, 128, 128}},
		{[3]int{255, 255, 255}, [3]int{255, 128, 128}},
		{[3]int{128, 128, 128}, [3]int{128, 128, 128}},
		{[3]int{1, 1, 1}, [3]int{1, 128, 128}},
		{[3]int{0, 255, 0}, [3]int{150, 44, 21}},
		{[3]int{0, 0, 255}, [3]int{29, 255, 107}},
		{[3]int{255, 255, 0}, [3]int{226, 1, 149}},
		{[3]int{0, 255, 255}, [3]int{179, 171, 1}},
		{[3]int{255, 0, 255}, [3]int{105, 212, 235}},
		{[3]int{0, 0, 4}, [3]int{0, 130, 128}},
		{[3]int{0, 0, 5}, [3]int{1, 131, 128}},
		{[3]int{5, 0, 0}, [3]int{1, 127, 131}},
		{[3]int{10, 20, 30}, [3]int{18, 135, 122}},
	} {
		same(t, "Bright", dct.Bright(of.rgb), of.ybr)
	}
}

func TestColourByHand(t *testing.T) {
	for _, of := range []struct{ ybr, rgb [3]int }{
		{[3]int{0, 128, 128}, [3]int{0, 0, 0}},
		{[3]int{255, 128, 128}, [3]int{255, 255, 255}},
		{[3]int{77, 128, 128}, [3]int{77, 77, 77}},
		{[3]int{76, 85, 255}, [3]int{254, 0, 0}},
		{[3]int{128, 128, 129}, [3]int{129, 127, 128}},
		{[3]int{128, 128, 127}, [3]int{127, 129, 128}},
		{[3]int{128, 129, 128}, [3]int{128, 128, 130}},
		{[3]int{128, 127, 128}, [3]int{128, 128, 126}},
		{[3]int{0, 0, 0}, [3]int{0, 135, 0}},
		{[3]int{255, 255, 255}, [3]int{255, 121, 255}},
		{[3]int{200, 0, 255}, [3]int{255, 153, 0}},
		{[3]int{200, 255, 0}, [3]int{21, 248, 255}},
	} {
		same(t, "Colour", dct.Colour(of.ybr), of.rgb)
	}
}

// each calls with all threes of numbers from 0 to 255.
func each(call func(p [3]int)) {
	for i := range 256 {
		for j := range 256 {
			for k := range 256 {
				call([3]int{i, j, k})
			}
		}
	}
}

func TestBrightOfAllColours(t *testing.T) {
	wrong := 0
	each(func(p [3]int) {
		if got := dct.Bright(p); got != plainBright(p) && wrong < 10 {
			wrong++
			t.Errorf("Bright(%v) is %v, not %v", p, got, plainBright(p))
		}
	})
}

func TestColourOfAllThrees(t *testing.T) {
	wrong := 0
	each(func(p [3]int) {
		if got := dct.Colour(p); got != plainColour(p) && wrong < 10 {
			wrong++
			t.Errorf("Colour(%v) is %v, not %v", p, got, plainColour(p))
		}
	})
}

// Another program has the same brightness, and differences that are the same or next to them.
func TestBrightByAnotherProgram(t *testing.T) {
	wrong := 0
	each(func(p [3]int) {
		y, b, r := color.RGBToYCbCr(uint8(p[0]), uint8(p[1]), uint8(p[2]))
		got := dct.Bright(p)
		offB, offR := got[1]-int(b), got[2]-int(r)
		if (got[0] != int(y) || offB < -1 || offB > 1 || offR < -1 || offR > 1) && wrong < 10 {
			wrong++
			t.Errorf("Bright(%v) is %v, but elsewhere %d, %d, %d", p, got, y, b, r)
		}
	})
}

// A colour that is told by its brightness and differences comes back, or one next to it.
func TestColourTakesBrightBack(t *testing.T) {
	wrong := 0
	each(func(p [3]int) {
		back := dct.Colour(dct.Bright(p))
		for i, n := range back {
			if (n-p[i] < -2 || n-p[i] > 2) && wrong < 10 {
				wrong++
				t.Errorf("%v comes back as %v", p, back)
			}
		}
	})
	for n := range 256 {
		same(t, "a grey", dct.Colour(dct.Bright([3]int{n, n, n})), [3]int{n, n, n})
	}
}
