package render

import (
	"scumble/affine"
	"scumble/pix"
	"scumble/tree"
)

// top is the greatest number: a whole colour, or an alpha that covers all.
const top = 255

// alpha is where a pixel's alpha stands; its colours are the numbers ahead.
const alpha = 3

// The kinds of layers by their numbers.
const (
	raster = iota
	group
	adjustment
)

// sight is the pixel that is seen at a place.
type sight func(x int, y int) [4]int

// laying is what a layer makes of the pixel that is there at a place.
type laying func(x int, y int, ground [4]int) [4]int

// share is how much of a layer there is at a place.
type share func(x int, y int) int

// laid is what a list of layers looks like by itself, in a document that is so wide.
func laid(layers []tree.Layer, width int) sight {
	var shown []laying
	for _, l := range layers {
		if !l.Hidden {
			shown = append(shown, lay(l, width))
		}
	}
	return func(x int, y int) [4]int {
		var p [4]int
		for _, over := range shown {
			p = over(x, y, p)
		}
		return p
	}
}

// lay is how a layer is laid.
func lay(l tree.Layer, width int) laying {
	part := partOf(l, width)
	switch l.Kind {
	case group:
		return blended(l.Mode, laid(l.Kids, width), part)
	case adjustment:
		return adjusted(l, part)
	}
	return blended(l.Mode, seen(l), part)
}

// partOf is a layer's part.
func partOf(l tree.Layer, width int) share {
	if len(l.Mask) == 0 {
		return func(int, int) int { return l.Opacity }
	}
	return func(x int, y int) int { return pix.Mul(l.Opacity, int(l.Mask[y*width+x])) }
}

// seen is a raster's picture, seen through its map.
func seen(l tree.Layer) sight {
	picture := affine.Picture{W: l.W, H: l.H, P: l.P}
	back, _ := l.Map.Back()
	return func(x int, y int) [4]int { return pix.Split(affine.At(picture, back, x, y, l.Smooth)) }
}

// blended lays what is seen.
func blended(mode int, source sight, part share) laying {
	return func(x int, y int, ground [4]int) [4]int {
		return pix.Blend(mode, pix.Fade(source(x, y), part(x, y)), ground)
	}
}

// adjusted takes what is there through a table.
func adjusted(l tree.Layer, part share) laying {
	table, _ := pix.Table(l.Table, l.Params)
	return func(x int, y int, ground [4]int) [4]int {
		return mixed(pix.Map(table, ground), ground, part(x, y))
	}
}

// mixed is a part of the colours of q, and for the rest those of p.
func mixed(q [4]int, p [4]int, part int) [4]int {
	for c := range alpha {
		p[c] = min(pix.Mul(q[c], part)+pix.Mul(p[c], top-part), p[alpha])
	}
	return p
}
