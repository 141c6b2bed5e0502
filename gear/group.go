package gear

import (
	"bolster/api"
	"bolster/exact"
)

// Group returns the primes and the basis of the group of a gear. (Its numbers
// have far fewer than api.MaxDigits digits: there are at most 15 rows of small
// exponents that do not depend on each other.)
func Group(n int, belts []api.Belt) ([]int, [][]api.Num, api.Errno) {
	g, e := newGear(n, belts)
	if e != api.OK {
		return nil, nil, e
	}
	var rows []row
	for i := range g.belts {
		var r row
		for _, exponent := range g.excess(i).exponents {
			r = append(r, exact.Of(exponent))
		}
		rows = append(rows, r)
	}
	var basis [][]api.Num
	for _, r := range normal(rows, len(g.primes)) {
		var numbers []api.Num
		for _, v := range r {
			numbers = append(numbers, api.Num(v.String()))
		}
		basis = append(basis, numbers)
	}
	return g.primes, basis, api.OK
}

// A row is a list of exponents.
type row []exact.Int

// less subtracts another row, as often as is said, from a row.
func (r row) less(times exact.Int, other row) {
	for i, v := range other {
		r[i] = r[i].Sub(times.Mul(v))
	}
}

// negate changes the sign of a row.
func (r row) negate() {
	for i, v := range r {
		r[i] = v.Neg()
	}
}

// normal changes rows into those of their Hermite normal form, and returns them.
func normal(rows []row, columns int) []row {
	done := 0
	for c := range columns {
		if !clearBelow(rows[done:], c) {
			continue
		}
		last := rows[done]
		for _, r := range rows[:done] {
			r.less(r[c].Floor(last[c]), last)
		}
		done++
	}
	return rows[:done]
}

// clearBelow changes rows so that only the first one has an element above 0 in a
// column, by Euclid's algorithm, and the other ones 0; false if all have 0.
func clearBelow(rows []row, column int) bool {
	for {
		least, others := -1, 0
		for i, r := range rows {
			if r[column].Sign() == 0 {
				continue
			}
			others++
			if least < 0 || r[column].Abs().Cmp(rows[least][column].Abs()) < 0 {
				least = i
			}
		}
		if least < 0 {
			return false
		}
		rows[0], rows[least] = rows[least], rows[0]
		first := rows[0]
		if first[column].Sign() < 0 {
			first.negate()
		}
		if others == 1 {
			return true
		}
		for _, r := range rows[1:] {
			r.less(r[column].Floor(first[column]), first)
		}
	}
}
