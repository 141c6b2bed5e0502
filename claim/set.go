package claim

import (
	"math/bits"
	"slices"
)

// set is a set of claims: those whose bits are 1.
type set uint

func (s set) has(claim int) bool { return s>>claim&1 == 1 }

func (s set) contains(other set) bool { return s|other == s }

// first returns the least claim of a set that is not empty.
func (s set) first() int { return bits.TrailingZeros(uint(s)) }

// each yields the claims of the set, rising.
func (s set) each(yield func(int) bool) {
	for s != 0 && yield(s.first()) {
		s &= s - 1
	}
}

// list returns the claims of the set, rising.
func (s set) list() []int { return slices.Collect(s.each) }

// listed returns sets in lexicographic order.
func listed(sets []set) [][]int {
	var lists [][]int
	for _, s := range sets {
		lists = append(lists, s.list())
	}
	slices.SortFunc(lists, slices.Compare)
	return lists
}

// greatest returns the sets with a measure that is not contained in a greater one.
func greatest(sets []set, measure func(set) set) []set {
	var measures, best []set
	for _, s := range sets {
		measures = append(measures, measure(s))
	}
	for i, m := range measures {
		above := func(other set) bool { return other != m && other.contains(m) }
		if !slices.ContainsFunc(measures, above) {
			best = append(best, sets[i])
		}
	}
	return best
}
