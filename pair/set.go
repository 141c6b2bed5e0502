package pair

import (
	"math/bits"
	"slices"
)

// set is a set of rows, or of columns: those whose bits are 1.
type set uint

// first returns the set of the first n numbers.
func first(n int) set { return 1<<n - 1 }

// has reports whether a number is in the set.
func (s set) has(number int) bool { return s>>number&1 == 1 }

// without returns the set without a number.
func (s set) without(number int) set { return s &^ (1 << number) }

// size returns how many numbers are in the set.
func (s set) size() int { return bits.OnesCount(uint(s)) }

// each yields the numbers of the set, rising.
func (s set) each(yield func(int) bool) {
	for number := range bits.Len(uint(s)) {
		if s.has(number) && !yield(number) {
			return
		}
	}
}

// list returns the numbers of the set, rising.
func (s set) list() []int { return slices.Collect(s.each) }
