package pair_test

// The definitions of the chapter, followed word by word: what the package's
// results are held against. They share no code with it.

import (
	"math"
	"math/rand"
	"slices"

	"bolster/api"
)

// matrix is costs.
type matrix [][]int

// newMatrix returns a matrix of n rows whose costs a function tells.
func newMatrix(n int, cost func(row, column int) int) matrix {
	var m matrix
	for row := range n {
		var l []int
		for column := range n {
			l = append(l, cost(row, column))
		}
		m = append(m, l)
	}
	return m
}

// random returns a matrix of n rows of random numbers below most.
func random(source *rand.Rand, n, most int) matrix {
	return newMatrix(n, func(int, int) int { return source.Intn(most) })
}

// matrices yields costs of all sizes: of the smallest ones all with small numbers,
// and others with many and with few equal costs.
func matrices(yield func(matrix) bool) {
	for i := range 2 * 2 * 2 * 2 * 2 * 2 * 2 * 2 * 2 {
		if !yield(newMatrix(3, func(row, column int) int { return i >> (3*row + column) & 1 })) {
			return
		}
	}
	for i := range 4 * 4 * 4 * 4 {
		if !yield(newMatrix(2, func(row, column int) int { return i >> (4*row + 2*column) & 3 })) {
			return
		}
	}
	for m := range others {
		if !yield(m) {
			return
		}
	}
}

// others yields the costs of matrices that are not of the smallest ones.
func others(yield func(matrix) bool) {
	source := rand.New(rand.NewSource(1))
	for _, m := range []matrix{{{0}}, {{7}}, {{api.MaxGain}}} {
		if !yield(m) {
			return
		}
	}
	for n := 3; n <= api.MaxBlades; n++ {
		for i := range 2 + 200>>(n-3) {
			if !yield(random(source, n, []int{2, 3, 7, 30, api.MaxGain + 1}[i%5])) {
				return
			}
		}
	}
	const n = api.MaxBlades
	for _, cost := range []func(row, column int) int{
		func(row, column int) int { return 0 },
		func(row, column int) int { return api.MaxGain },
		func(row, column int) int { return row * column },
		func(row, column int) int { return (n - row) * column },
		func(row, column int) int { return (row - column) * (row - column) },
		func(row, column int) int { return (8*row + column) * 15 },
		func(row, column int) int { return (row + column) % n },
	} {
		if !yield(newMatrix(n, cost)) {
			return
		}
	}
}

// pairings yields the permutations of 0 to n - 1 in lexicographic order.
func pairings(n int) func(func([]int) bool) {
	return func(yield func([]int) bool) {
		var extend func(l []int) bool
		extend = func(l []int) bool {
			if len(l) == n {
				return yield(slices.Clone(l))
			}
			for j := range n {
				if !slices.Contains(l, j) && !extend(append(l, j)) {
					return false
				}
			}
			return true
		}
		extend(make([]int, 0, n))
	}
}

// of returns the costs of a pairing.
func (m matrix) of(pairing []int) []int {
	var l []int
	for i, j := range pairing {
		l = append(l, m[i][j])
	}
	return l
}

// least returns the first of the pairings for whose costs a measure is
// lexicographically least, and that measure.
func (m matrix) least(measure func(costs []int) []int) ([]int, []int) {
	var best, least []int
	for pairing := range pairings(len(m)) {
		l := measure(m.of(pairing))
		if best == nil || slices.Compare(l, least) < 0 {
			best, least = pairing, l
		}
	}
	return best, least
}

func greatest(costs []int) []int { return []int{slices.Max(costs)} }

func sum(costs []int) []int {
	total := 0
	for _, cost := range costs {
		total += cost
	}
	return []int{total}
}

func difference(costs []int) []int { return []int{slices.Max(costs) - slices.Min(costs)} }

func fallingOrder(costs []int) []int {
	l := slices.Sorted(slices.Values(costs))
	slices.Reverse(l)
	return l
}

// limits returns numbers below, among, between and above the costs.
func (m matrix) limits() []int {
	l := []int{math.MinInt, -1, 0, 1, 3, 10, 200, 500, api.MaxGain, math.MaxInt}
	if len(m) < 7 {
		l = append(l, slices.Concat(m...)...)
	}
	slices.Sort(l)
	return slices.Compact(l)
}

// allowed returns the pairings of allowed pairs, in lexicographic order.
func (m matrix) allowed(limit int) [][]int {
	var l [][]int
	for pairing := range pairings(len(m)) {
		if slices.Max(m.of(pairing)) <= limit {
			l = append(l, pairing)
		}
	}
	return l
}

// subsets returns the sets of numbers below n, each rising, by their sizes and in
// lexicographic order.
func subsets(n int) [][]int {
	l := [][]int{nil}
	for number := range n {
		for _, set := range slices.Clone(l) {
			l = append(l, append(slices.Clone(set), number))
		}
	}
	slices.SortFunc(l, func(a, b []int) int {
		if len(a) != len(b) {
			return len(a) - len(b)
		}
		return slices.Compare(a, b)
	})
	return l
}

// handles returns how many handles some blades have together in allowed pairs.
func (m matrix) handles(limit int, blades []int) int {
	count := 0
	for j := range m {
		if slices.ContainsFunc(blades, func(i int) bool { return m[i][j] <= limit }) {
			count++
		}
	}
	return count
}

// lacks returns the first of the least sets of blades with too few handles.
func (m matrix) lacks(limit int) ([]int, api.Errno) {
	for _, blades := range subsets(len(m)) {
		if m.handles(limit, blades) < len(blades) {
			return blades, api.OK
		}
	}
	return nil, api.ErrNone
}

// most returns how many allowed pairs of the rows from one on have no column in
// common with one another, nor with taken ones.
func (m matrix) most(limit, row int, taken []int) int {
	if row == len(m) {
		return 0
	}
	best := m.most(limit, row+1, taken)
	for j, cost := range m[row] {
		if cost <= limit && !slices.Contains(taken, j) {
			best = max(best, 1+m.most(limit, row+1, append(slices.Clone(taken), j)))
		}
		if best == len(m)-row {
			break
		}
	}
	return best
}

// covers reports whether rows and columns are a covering of the allowed pairs.
func (m matrix) covers(limit int, rows, columns []int) bool {
	for i, l := range m {
		for j, cost := range l {
			if cost <= limit && !slices.Contains(rows, i) && !slices.Contains(columns, j) {
				return false
			}
		}
	}
	return true
}

// fits reports whether the two numbers of each pair are together at most its cost.
func (m matrix) fits(rows, columns []int) bool {
	for i, l := range m {
		for j, cost := range l {
			if rows[i]+columns[j] > cost {
				return false
			}
		}
	}
	return len(rows) == len(m) && len(columns) == len(m)
}

// isRising reports whether each element is greater than the one before, and all are
// below n.
func isRising(l []int, n int) bool {
	for i, number := range l {
		if number < 0 || number >= n || i > 0 && number <= l[i-1] {
			return false
		}
	}
	return true
}
