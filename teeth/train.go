package teeth

import (
	"slices"

	"bolster/api"
)

const maxPairs = 3 // pairs of wheels of a train

// Train returns the first train whose ratio is closest to a fraction.
func Train(over, under int, wheels []int, pairs int) ([][]int, api.Errno) {
	if !isFraction(over, under) || !areWheels(wheels) || !within(pairs, 1, maxPairs) {
		return nil, api.ErrArg
	}
	if len(wheels) < 2*pairs {
		return nil, api.ErrNone
	}
	wanted := fraction{over, under}
	var best [][]int
	var nearest fraction
	// Trains are tried in lexicographic order: the first wheels of their pairs rise.
	var extend func(train [][]int, used uint, ratio fraction, from int)
	extend = func(train [][]int, used uint, ratio fraction, from int) {
		if len(train) == pairs {
			if best == nil || wanted.closer(ratio, nearest) < 0 {
				best, nearest = slices.Clone(train), ratio
			}
			return
		}
		for a := from; a < len(wheels); a++ {
			for b := range wheels {
				both := uint(1)<<a | uint(1)<<b
				if a == b || used&both != 0 {
					continue
				}
				next := fraction{ratio.over * wheels[a], ratio.under * wheels[b]}
				extend(append(train, []int{a, b}), used|both, next, a+1)
			}
		}
	}
	extend(nil, 0, fraction{1, 1}, 0)
	return best, api.OK
}

// areWheels reports whether trains can be made of wheels with such numbers of teeth.
func areWheels(wheels []int) bool {
	return len(wheels) <= api.MaxTrain && !slices.ContainsFunc(wheels, func(teeth int) bool {
		return !within(teeth, 1, api.MaxTeeth)
	})
}
