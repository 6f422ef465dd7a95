package dct

// The numbers that brightness has steps by.
var brightness = [64]int{
	16, 11, 10, 16, 24, 40, 51, 61,
	12, 12, 14, 19, 26, 58, 60, 55,
	14, 13, 16, 24, 40, 57, 69, 56,
	14, 17, 22, 29, 51, 87, 80, 62,
	18, 22, 37, 56, 68, 109, 103, 77,
	24, 35, 55, 64, 81, 104, 113, 92,
	49, 64, 78, 87, 103, 121, 120, 101,
	72, 92, 95, 98, 112, 100, 103, 99,
}

// The numbers that differences have steps by, where they aren't coarse.
var corner = [4][4]int{
	{17, 18, 24, 47},
	{18, 21, 26, 66},
	{24, 26, 56, 99},
	{47, 66, 99, 99},
}

// coarse is what differences have steps by outside of the corner.
const coarse = 99

// Steps are a quality's.
func Steps(quality int, differences bool) ([64]int, bool) {
	if quality < 1 || quality > 100 {
		return [64]int{}, false
	}
	var steps [64]int
	for i := range steps {
		steps[i] = min(max((base(i, differences)*scale(quality)+50)/100, 1), 255)
	}
	return steps, true
}

// base is the number of a table at a place.
func base(place int, differences bool) int {
	if !differences {
		return brightness[place]
	}
	u, v := place%side, place/side
	if u < len(corner) && v < len(corner) {
		return corner[v][u]
	}
	return coarse
}

// scale is how many hundredths of a table's numbers a quality's steps are.
func scale(quality int) int {
	if quality < 50 {
		return 5000 / quality
	}
	return 200 - 2*quality
}

// InSteps is how many steps a number is.
func InSteps(f int, t int) int {
	switch {
	case t < 1:
		return 0
	case f < 0:
		return -((t/2 - f) / t)
	}
	return (f + t/2) / t
}
