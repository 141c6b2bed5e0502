package teeth

import (
	"bytes"
	"iter"
	"sort"

	"bolster/api"
	"bolster/exact"
)

// Root returns the terms of a square root.
func Root(d int) (int, []int, api.Errno) {
	if e := checkRoot(d, true); e != api.OK {
		return 0, nil, e
	}
	first := floorRoot(d)
	var row []int
	for term := range rootTerms(d) {
		row = append(row, term)
		if term == 2*first { // only the last number of a period is so great
			break
		}
	}
	return first, row[1:], api.OK
}

// Pell returns the least solution of Pell's equation. All solutions are convergents of
// the square root, and those for -1 come before the first one for 1.
func Pell(d, sign int) (api.Num, api.Num, api.Errno) {
	if e := checkRoot(d, sign == 1 || sign == -1); e != api.OK {
		return "", "", e
	}
	one, wanted := exact.Of(1), exact.Of(sign)
	var beforeX, y exact.Int
	x, beforeY := one, one
	for term := range rootTerms(d) {
		t := exact.Of(term)
		x, beforeX = t.Mul(x).Add(beforeX), x
		y, beforeY = t.Mul(y).Add(beforeY), y
		norm := x.Mul(x).Sub(exact.Of(d).Mul(y).Mul(y))
		if norm.Cmp(wanted) == 0 {
			return api.Num(x.String()), api.Num(y.String()), api.OK
		}
		if norm.Cmp(one) == 0 {
			break
		}
	}
	return "", "", api.ErrNone
}

// Beats returns the letters of the beats of a number. Those that are no beats of a are
// beats of b.
func Beats(d, n int) (string, api.Errno) {
	if e := checkRoot(d, within(n, 0, api.MaxCircle)); e != api.OK {
		return "", e
	}
	letters := bytes.Repeat([]byte("b"), n)
	for k := 1; ; k++ {
		beat := k + floorRoot(k*k*d)
		if beat > n {
			return string(letters), api.OK
		}
		letters[beat-1] = 'a'
	}
}

// checkRoot returns the error of a number whose root is to be taken, or of the other
// arguments.
func checkRoot(d int, others bool) api.Errno {
	if !within(d, 2, api.MaxRoot) || !others {
		return api.ErrArg
	}
	if first := floorRoot(d); first*first == d {
		return api.ErrNone
	}
	return api.OK
}

// floorRoot returns the greatest number whose square is at most n, which is 0 to 10^9.
func floorRoot(n int) int {
	return sort.Search(n+1, func(r int) bool { return r*r > n }) - 1
}

// rootTerms yields the terms of the square root of d, without end. What remains to be
// turned into terms is always that root plus a whole number, divided by another one.
func rootTerms(d int) iter.Seq[int] {
	return func(yield func(int) bool) {
		first := floorRoot(d)
		whole, under := 0, 1
		for {
			term := (first + whole) / under
			if !yield(term) {
				return
			}
			whole = term*under - whole
			under = (d - whole*whole) / under
		}
	}
}
