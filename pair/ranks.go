package pair

import "bolster/api"

// listing is what counts and lists pairings of allowed pairs.
type listing struct {
	allowed []set // of each row its columns
	counts  []int // of the pairings of the last rows with just these columns
}

// allowed returns for each row the columns whose costs are within limits.
func allowed(costs [][]int, least, most int) []set {
	l := make([]set, len(costs))
	for row := range costs {
		for column, cost := range costs[row] {
			if least <= cost && cost <= most {
				l[row] |= 1 << column
			}
		}
	}
	return l
}

// newListing returns the listing of the pairings whose costs are within limits.
func newListing(costs [][]int, least, most int) listing {
	n := len(costs)
	l := listing{allowed(costs, least, most), make([]int, 1<<n)}
	l.counts[0] = 1
	for free := set(1); free <= first(n); free++ {
		columns := free & l.allowed[n-free.size()]
		for column := range columns.each {
			l.counts[free] += l.counts[free.without(column)]
		}
	}
	return l
}

// count returns how many pairings there are.
func (l listing) count() int { return l.counts[len(l.counts)-1] }

// at returns the pairing with a number, or nil if there is none.
func (l listing) at(rank int) []int {
	if rank < 0 {
		return nil
	}
	return search(len(l.allowed), func(row, column int, rest set) bool {
		if !l.allowed[row].has(column) {
			return false
		}
		if rank < l.counts[rest] {
			return true
		}
		rank -= l.counts[rest]
		return false
	})
}

// rank returns the number of a pairing, and whether all its pairs are allowed.
func (l listing) rank(pairing []int) (int, bool) {
	rank, free := 0, first(len(pairing))
	for row, handle := range pairing {
		if !l.allowed[row].has(handle) {
			return 0, false
		}
		before := free & l.allowed[row] & first(handle)
		for column := range before.each {
			rank += l.counts[free.without(column)]
		}
		free = free.without(handle)
	}
	return rank, true
}

// isPairing reports whether a slice is a permutation of the first n numbers.
func isPairing(pairing []int, n int) bool {
	if len(pairing) != n {
		return false
	}
	free := first(n)
	for _, column := range pairing {
		if column < 0 || !free.has(column) {
			return false
		}
		free = free.without(column)
	}
	return true
}

// Count returns how many pairings consist of allowed pairs.
func Count(costs [][]int, limit int) (int, api.Errno) {
	if !valid(costs) {
		return 0, api.ErrArg
	}
	return newListing(costs, 0, limit).count(), api.OK
}

// At returns the pairing of allowed pairs with a number.
func At(costs [][]int, limit, rank int) ([]int, api.Errno) {
	if !valid(costs) {
		return nil, api.ErrArg
	}
	pairing := newListing(costs, 0, limit).at(rank)
	if pairing == nil {
		return nil, api.ErrNone
	}
	return pairing, api.OK
}

// Rank returns the number of a pairing of allowed pairs.
func Rank(costs [][]int, limit int, pairing []int) (int, api.Errno) {
	if !valid(costs) {
		return 0, api.ErrArg
	}
	if !isPairing(pairing, len(costs)) {
		return 0, api.ErrForm
	}
	rank, ok := newListing(costs, 0, limit).rank(pairing)
	if !ok {
		return 0, api.ErrNone
	}
	return rank, api.OK
}
