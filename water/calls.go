package water

import (
	"slices"

	"bolster/api"
)

// Calls returns the use by rights.
func Calls(flow, rights, ages []int) ([]int, api.Errno) {
	if !validFlow(flow) || len(rights) != len(flow) || !areAmounts(rights) || !areAges(ages, len(flow)) {
		return nil, api.ErrArg
	}
	use := make([]int, len(flow))
	for age := range len(flow) {
		place := slices.Index(ages, age)
		for range rights[place] {
			next := grown(use, place)
			if !isPossible(flow, next) {
				break
			}
			use = next
		}
	}
	return use, api.OK
}

// areAges reports whether the ages are a permutation of 0 to n - 1.
func areAges(ages []int, n int) bool {
	if len(ages) != n {
		return false
	}
	for age := range n {
		if !slices.Contains(ages, age) {
			return false
		}
	}
	return true
}
