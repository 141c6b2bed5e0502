package pair

// search returns the pairing in which each row in turn has the first free column that
// fits, where rest are the columns that it leaves free; or nil if none fits a row.
func search(n int, fits func(row, column int, rest set) bool) []int {
	pairing := make([]int, n)
	free := first(n)
rows:
	for row := range pairing {
		for column := range n {
			rest := free.without(column)
			if rest != free && fits(row, column, rest) {
				pairing[row], free = column, rest
				continue rows
			}
		}
		return nil
	}
	return pairing
}

// optimum returns the lexicographically least of the pairings with the least measure,
// and that measure. The measure of no pairs is the zero value, and with adds the cost
// of a pair to a measure; of two measures the less one must stay so if the same cost
// is added to both, so that the best rest of a pairing is best with any first pair.
func optimum[T comparable](costs [][]int, with func(T, int) T, compare func(T, T) int) ([]int, T) {
	n := len(costs)
	measures := make([]T, 1<<n) // of the last rows with just these columns
	for free := set(1); free <= first(n); free++ {
		row, known := n-free.size(), false
		for column := range free.each {
			measure := with(measures[free.without(column)], costs[row][column])
			if !known || compare(measure, measures[free]) < 0 {
				measures[free], known = measure, true
			}
		}
	}
	free := first(n)
	pairing := search(n, func(row, column int, rest set) bool {
		if with(measures[rest], costs[row][column]) != measures[free] {
			return false
		}
		free = rest
		return true
	})
	return pairing, measures[first(n)]
}
