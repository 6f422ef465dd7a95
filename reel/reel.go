// Package reel is layer 1: a stand-in for a file that is appended to and cut
// off, and for what a crash leaves of it. See shared/doc/01-reel.md.
package reel

import "scumble/api"

// unarmed is what left holds while no call brings the reel down.
const unarmed = -1

// Reel is a file of at most so many bytes as its capacity.
type Reel struct {
	capacity int
	data     []byte
	safe     int
	left     int // calls that are done still before one brings it down
	down     bool
}

// New makes an empty reel; nil for a capacity that no reel may have.
func New(capacity int) *Reel {
	if capacity < 0 || capacity > api.MaxReel {
		return nil
	}
	return &Reel{capacity: capacity, left: unarmed}
}

// Append puts bytes behind those that are there.
func (r *Reel) Append(b []byte) api.Errno {
	if r.down {
		return api.ErrDown
	}
	if len(b) > r.capacity-len(r.data) {
		return api.ErrFull
	}
	// The bytes are there even if the reel goes down at this call: a crash
	// then chooses how many of them were written in time.
	r.data = append(r.data, b...)
	return r.spend()
}

// Sync makes all bytes safe.
func (r *Reel) Sync() api.Errno {
	if r.down {
		return api.ErrDown
	}
	if e := r.spend(); e != api.OK {
		return e
	}
	r.safe = len(r.data)
	return api.OK
}

// Cut leaves the first n bytes only. No crash brings the others back.
func (r *Reel) Cut(n int) api.Errno {
	if r.down {
		return api.ErrDown
	}
	if n < 0 || n > len(r.data) {
		return api.ErrRange
	}
	if e := r.spend(); e != api.OK {
		return e
	}
	r.data = r.data[:n]
	r.safe = min(r.safe, n)
	return api.OK
}

// spend uses up one of the calls that an armed reel still does, and brings
// the reel down if none is left. A call that is refused must not come here.
func (r *Reel) spend() api.Errno {
	if r.left == 0 {
		r.down = true
		return api.ErrDown
	}
	if r.left > 0 {
		r.left--
	}
	return api.OK
}

// Read tells the n bytes from at on, in memory of their own.
func (r *Reel) Read(at int, n int) ([]byte, api.Errno) {
	if r.down {
		return nil, api.ErrDown
	}
	// at + n may be more than an int holds, so n is held against the rest.
	if at < 0 || n < 0 || n > len(r.data)-at {
		return nil, api.ErrRange
	}
	return copied(r.data[at : at+n]), api.OK
}

// Size is how many bytes there are.
func (r *Reel) Size() int { return len(r.data) }

// Safe is how many of them no crash takes away.
func (r *Reel) Safe() int { return r.safe }

// Arm lets n calls more be done, and the next one bring the reel down; n
// below 0 disarms it.
func (r *Reel) Arm(n int) { r.left = max(n, unarmed) }

// Down tells whether the reel is down.
func (r *Reel) Down() bool { return r.down }

// Crash leaves the safe bytes, and the first keep of the others, the last of
// these xored with garble. The reel works again behind it.
func (r *Reel) Crash(keep int, garble []byte) {
	loose := len(r.data) - r.safe
	r.data = r.data[:r.safe+min(max(keep, 0), loose)]
	xorEnd(r.data[r.safe:], garble)
	r.safe = len(r.data)
	r.left = unarmed
	r.down = false
}

// xorEnd xors the last bytes of b with the last ones of garble, end to end,
// as many as both have.
func xorEnd(b []byte, garble []byte) {
	n := min(len(b), len(garble))
	b, garble = b[len(b)-n:], garble[len(garble)-n:]
	for i := range n {
		b[i] ^= garble[i]
	}
}

// Clone makes another reel that is in all alike, and shares nothing.
func (r *Reel) Clone() *Reel {
	c := *r
	c.data = copied(r.data)
	return &c
}

// copied is b in memory of its own, without spare room.
func copied(b []byte) []byte {
	c := make([]byte, len(b))
	copy(c, b)
	return c
}
