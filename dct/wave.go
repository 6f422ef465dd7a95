package dct

// The steps of a whole turn and of half of one.
const (
	turn = 32
	half = turn / 2
)

// level is how high the wave is that is alike everywhere.
const level = 2896

// heights are a wave's own, from its top to where it is 0.
var heights = [...]int{4096, 4017, 3784, 3406, 2896, 2276, 1567, 799, 0}

// height is how high a wave is after k steps.
func height(k int) int {
	k %= turn
	if k > half {
		k = turn - k
	}
	if k >= len(heights) {
		return -heights[half-k]
	}
	return heights[k]
}

// waves are how high each wave is at each place.
func waves() [side][side]int {
	var w [side][side]int
	for x := range side {
		w[0][x] = level
		for u := 1; u < side; u++ {
			w[u][x] = height((2*x + 1) * u)
		}
	}
	return w
}

// turned has the places of all waves as rows.
func turned(w [side][side]int) [side][side]int {
	var places [side][side]int
	for u := range side {
		for x := range side {
			places[x][u] = w[u][x]
		}
	}
	return places
}
