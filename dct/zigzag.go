package dct

import "slices"

// Zigzag is the order of a block's places.
func Zigzag() [64]int {
	var order [64]int
	at := 0
	for n := range 2*side - 1 {
		at += copy(order[at:], line(n))
	}
	return order
}

// line are the places whose column and row are n together, in their order.
func line(n int) []int {
	var places []int
	for v := max(n-side+1, 0); v <= min(n, side-1); v++ {
		places = append(places, side*v+n-v)
	}
	if n%2 == 0 {
		slices.Reverse(places)
	}
	return places
}
