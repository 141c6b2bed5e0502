package gear

import (
	"math/bits"

	"bolster/api"
)

// A set of belts has a bit for each belt that is in it.
type set uint32

// list returns the belts of a set, rising.
func (s set) list() []int {
	var belts []int
	for ; s > 0; s &= s - 1 {
		belts = append(belts, bits.TrailingZeros32(uint32(s)))
	}
	return belts
}

// before reports whether a set has fewer belts than another one or, of as many,
// is lexicographically less: then the least belt in which they differ is its own.
func (s set) before(t set) bool {
	a, b := bits.OnesCount32(uint32(s)), bits.OnesCount32(uint32(t))
	if a != b {
		return a < b
	}
	different := s ^ t
	return s&different&-different > 0
}

// blocking returns the rings that block. Each ring is searched from its least
// wheel on, and in the direction in which its first belt is less than its last
// one; if these are the same belt twice, nothing need be multiplied.
func (g *gear) blocking() []set {
	var rings []set
	var walk func(start, wheel, first int, way, seen set, r ratio)
	walk = func(start, wheel, first int, way, seen set, r ratio) {
		for i := range g.belts {
			next, s, ok := g.along(i, wheel)
			switch {
			case !ok || next < start:
			case next != start:
				if seen>>next&1 == 0 {
					walk(start, next, first, way|1<<i, seen|1<<next, r.times(s))
				}
			case i > first && g.belts[i] != g.belts[first] && !r.times(s).isOne():
				rings = append(rings, way|1<<i)
			}
		}
	}
	for i, b := range g.belts {
		walk(b.A, b.B, i, 1<<i, 1<<b.B, g.ratios[i])
	}
	return rings
}

// Block returns the first shortest ring that blocks.
func Block(n int, belts []api.Belt) ([]int, api.Errno) {
	g, e := newGear(n, belts)
	if e != api.OK {
		return nil, e
	}
	rings := g.blocking()
	if len(rings) == 0 {
		return nil, api.ErrNone
	}
	least := rings[0]
	for _, ring := range rings {
		if ring.before(least) {
			least = ring
		}
	}
	return least.list(), api.OK
}

// Slip returns the least set of belts without which the gear turns.
func Slip(n int, belts []api.Belt) ([]int, api.Errno) {
	g, e := newGear(n, belts)
	if e != api.OK {
		return nil, e
	}
	rings := g.blocking()
	all := set(1)<<len(belts) - 1
	least := all
	for slipping := range all {
		if slipping.before(least) && slipping.breaks(rings) {
			least = slipping
		}
	}
	return least.list(), api.OK
}

// breaks reports whether each ring has a belt in a set.
func (s set) breaks(rings []set) bool {
	for _, ring := range rings {
		if s&ring == 0 {
			return false
		}
	}
	return true
}
