package water

import "bolster/api"

// isGroup reports whether a slice is rising places of a river of n places.
func isGroup(group []int, n int) bool {
	least := 0
	for _, place := range group {
		if place < least || place >= n {
			return false
		}
		least = place + 1
	}
	return true
}

// newGroup returns the river of a group, or the error of one that is not valid.
func newGroup(flow []int, gains [][]int, group []int) (river, api.Errno) {
	r, e := newRiver(flow, gains)
	if e != api.OK {
		return river{}, e
	}
	if !isGroup(group, len(flow)) {
		return river{}, api.ErrForm
	}
	return r, api.OK
}

// part returns the river of the places from one up to, but not with, another one.
func (r river) part(from, to int) river {
	return river{r.flow[from:to], r.gains[from:to]}
}

// Alone returns the worth of a group alone.
func Alone(flow []int, gains [][]int, group []int) (int, api.Errno) {
	r, e := newGroup(flow, gains, group)
	if e != api.OK {
		return 0, e
	}
	sum, first := 0, 0
	for i, place := range group {
		if i > 0 && place > group[i-1]+1 {
			first = i
		}
		if i+1 == len(group) || group[i+1] > place+1 {
			_, worth := r.part(group[first], place+1).best()
			sum += worth
		}
	}
	return sum, api.OK
}

// Aspires returns what a group aspires to.
func Aspires(flow []int, gains [][]int, group []int) (int, api.Errno) {
	r, e := newGroup(flow, gains, group)
	if e != api.OK {
		return 0, e
	}
	// The other places, if they gain nothing, use nothing in the best use.
	only := river{flow, make([][]int, len(gains))}
	for _, place := range group {
		only.gains[place] = r.gains[place]
	}
	_, worth := only.best()
	return worth, api.OK
}

// Shares returns what the places are due.
func Shares(flow []int, gains [][]int) ([]int, api.Errno) {
	r, e := newRiver(flow, gains)
	if e != api.OK {
		return nil, e
	}
	shares := make([]int, len(flow))
	before := 0
	for i := range shares {
		_, worth := r.part(0, i+1).best()
		shares[i] = worth - before
		before = worth
	}
	return shares, api.OK
}
