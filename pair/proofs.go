package pair

import (
	"cmp"
	"slices"

	"bolster/api"
)

// handles returns the columns that are allowed for any of some rows.
func handles(allowed []set, rows set) set {
	var columns set
	for row := range rows.each {
		columns |= allowed[row]
	}
	return columns
}

// Lacks returns the first of the least sets of blades that have fewer handles than
// they are. By Hall's theorem there is one exactly if there is no pairing.
func Lacks(costs [][]int, limit int) ([]int, api.Errno) {
	if !valid(costs) {
		return nil, api.ErrArg
	}
	pairs := allowed(costs, 0, limit)
	var best []int
	for rows := range set(1) << len(costs) {
		if handles(pairs, rows).size() >= rows.size() {
			continue
		}
		blades := rows.list()
		if best == nil || cmp.Or(len(blades)-len(best), slices.Compare(blades, best)) < 0 {
			best = blades
		}
	}
	if best == nil {
		return nil, api.ErrNone
	}
	return best, api.OK
}

// Most returns the greatest number of allowed pairs that have nothing in common, and
// a covering of as many rows and columns. By König's theorem no covering has fewer;
// and a least one has, besides its rows, just the columns of the other rows.
func Most(costs [][]int, limit int) (int, []int, []int, api.Errno) {
	if !valid(costs) {
		return 0, nil, nil, api.ErrArg
	}
	pairs, all := allowed(costs, 0, limit), first(len(costs))
	rows, columns := all, set(0)
	for some := range all {
		others := handles(pairs, all&^some)
		if some.size()+others.size() < rows.size()+columns.size() {
			rows, columns = some, others
		}
	}
	return rows.size() + columns.size(), rows.list(), columns.list(), api.OK
}

// Prices returns numbers of rows and columns that prove the least sum of costs.
func Prices(costs [][]int) ([]int, []int, api.Errno) {
	pairing, _, e := Cheapest(costs)
	if e != api.OK {
		return nil, nil, e
	}
	rows, columns := make([]int, len(costs)), make([]int, len(costs))
	// Each pair of the pairing has just its cost. The numbers of columns fall until
	// no other pair has more than its cost; as no pairing is cheaper, they stop
	// after less than n rounds, as the lengths of shortest paths do.
	for range costs {
		for row, column := range pairing {
			rows[row] = costs[row][column] - columns[column]
			for i, cost := range costs[row] {
				columns[i] = min(columns[i], cost-rows[row])
			}
		}
	}
	return rows, columns, api.OK
}

// Proves reports whether numbers of rows and columns prove that no pairing costs less
// than a sum.
func Proves(costs [][]int, rows, columns []int, sum int) (bool, api.Errno) {
	if !valid(costs) {
		return false, api.ErrArg
	}
	if !arePrices(rows, len(costs)) || !arePrices(columns, len(costs)) {
		return false, api.ErrForm
	}
	var total int64
	for i, row := range rows {
		total += int64(row) + int64(columns[i])
		for j, column := range columns {
			if row+column > costs[i][j] {
				return false, api.OK
			}
		}
	}
	return total >= int64(sum), api.OK
}

// arePrices reports whether there are n numbers in the range of prices.
func arePrices(prices []int, n int) bool {
	const most = 1000000000
	for _, price := range prices {
		if price < -most || price > most {
			return false
		}
	}
	return len(prices) == n
}
