package teeth

import (
	"slices"

	"bolster/api"
)

const maxMarkov = 1_000_000_000 // the greatest number up to which Markov numbers are listed

// Markov returns the Markov numbers up to some number. Each one is the greatest number
// of a triple, and all triples grow out of 1, 1, 1: in place of a number that is not
// the greatest one comes the other number for which the equation holds.
func Markov(most int) ([]int, api.Errno) {
	if !within(most, 1, maxMarkov) {
		return nil, api.ErrArg
	}
	var numbers []int
	var grow func(x, y, z int)
	grow = func(x, y, z int) {
		if z > most {
			return
		}
		numbers = append(numbers, z)
		grow(x, z, 3*x*z-y)
		if x != y {
			grow(y, z, 3*y*z-x)
		}
	}
	grow(1, 1, 1)
	slices.Sort(numbers)
	return slices.Compact(numbers), api.OK
}
