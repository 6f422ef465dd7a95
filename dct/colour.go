package dct

// middle is what a difference of 0 stands as.
const middle = 128

// Bright is a colour's brightness and its differences.
func Bright(rgb [3]int) [3]int {
	r, g, b := rgb[0], rgb[1], rgb[2]
	return [3]int{
		cut(whole(19595*r + 38470*g + 7471*b)),
		cut(whole(32768*b-11059*r-21709*g) + middle),
		cut(whole(32768*r-27439*g-5329*b) + middle),
	}
}

// Colour is the colour that has this brightness and these differences.
func Colour(ybr [3]int) [3]int {
	y, b, r := ybr[0], ybr[1]-middle, ybr[2]-middle
	return [3]int{
		cut(y + whole(91881*r)),
		cut(y - whole(22554*b+46802*r)),
		cut(y + whole(116130*b)),
	}
}

// whole is the number that is nearest to so many parts of 65536.
func whole(n int) int { return (n + 1<<15) >> 16 }

func cut(n int) int { return min(max(n, 0), 255) }
