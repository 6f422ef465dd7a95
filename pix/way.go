package pix

// share is how much of a pixel a way takes, by how much the other one covers.
type share int

const (
	none share = iota
	all
	inside  // what lies in the other
	outside // what lies beside it
)

// ways are the share of the source and that of the ground.
var ways = [12][2]share{
	{none, none},
	{all, none},
	{none, all},
	{all, outside},
	{outside, all},
	{inside, none},
	{none, inside},
	{outside, none},
	{none, outside},
	{inside, outside},
	{outside, inside},
	{outside, outside},
}

// of is the share as a part of 255, where the other pixel has this alpha.
func (s share) of(other int) int {
	switch s {
	case all:
		return top
	case inside:
		return other
	case outside:
		return top - other
	}
	return 0
}

// Way lays a source over a ground.
func Way(way int, s [4]int, d [4]int) [4]int {
	if way < 0 || way >= len(ways) {
		way = 0
	}
	f := ways[way][0].of(d[alpha])
	g := ways[way][1].of(s[alpha])
	var laid [4]int
	for i := range laid {
		laid[i] = min(Mul(s[i], f)+Mul(d[i], g), top)
	}
	return laid
}
