package scroll

import "math/bits"

// set is a set of letters.
type set uint

func (s set) has(letter int) bool { return s>>letter&1 == 1 }

func (s set) isOdd() bool { return bits.OnesCount(uint(s))%2 == 1 }

// interlaced returns of each letter those that are interlaced with it.
func (c *curve) interlaced() []set {
	laced := make([]set, len(c.places))
	for letter, places := range c.places {
		for _, other := range c.word[places[0]+1 : places[1]] {
			// One that occurs twice in between is put in and taken out again.
			laced[letter] ^= 1 << other
		}
	}
	return laced
}

// canBeDivided reports whether the letters can be divided into two sets such that two
// interlaced letters have an even number of letters that are interlaced with both exactly
// if they are in different sets.
func canBeDivided(laced []set) bool {
	sides := make([]int, len(laced))
	for letter := range laced {
		if sides[letter] == 0 {
			// The letters that hang together with this one are on no side yet, so that
			// either side will do.
			sides[letter] = 1
			if !spread(laced, sides, letter) {
				return false
			}
		}
	}
	return true
}

// spread puts the letters that hang together with one that is on a side on theirs, and
// reports whether that can be done.
func spread(laced []set, sides []int, letter int) bool {
	for other, with := range laced {
		if !with.has(letter) {
			continue
		}
		side := -sides[letter]
		if (with & laced[letter]).isOdd() {
			side = sides[letter]
		}
		if sides[other] == -side {
			return false
		}
		if sides[other] == 0 {
			sides[other] = side
			if !spread(laced, sides, other) {
				return false
			}
		}
	}
	return true
}
