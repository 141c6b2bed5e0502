package teeth

import "bolster/api"

// The limits of the terms of a numeration.
const (
	minTerms = 2
	maxTerms = 20
	maxUnder = 1_000_000_000 // the last denominator
)

// Digits returns Ostrowski's digits of a number. As each number below q(i) has digits
// up to c(i), the greatest possible digits are right, from the last one on.
func Digits(terms []int, n int) ([]int, api.Errno) {
	unders, ok := undersOf(terms)
	if !ok {
		return nil, api.ErrArg
	}
	last := len(terms) - 1
	if !within(n, 0, unders[last]-1) {
		return nil, api.ErrNone
	}
	digits := make([]int, last)
	for i := last - 1; i >= 0; i-- {
		digits[i] = n / unders[i]
		n %= unders[i]
	}
	return digits, api.OK
}

// Number returns the number of Ostrowski's digits.
func Number(terms, digits []int) (int, api.Errno) {
	unders, ok := undersOf(terms)
	if !ok {
		return 0, api.ErrArg
	}
	if len(digits) != len(terms)-1 {
		return 0, api.ErrForm
	}
	n, before := 0, 1 // the first digit must be less than its term, as if one came before it
	for i, digit := range digits {
		most := terms[i+1]
		if !within(digit, 0, most) || digit == most && before > 0 {
			return 0, api.ErrForm
		}
		n += digit * unders[i]
		before = digit
	}
	return n, api.OK
}

// undersOf returns the denominators of the convergents of terms, and whether the terms
// are those of a numeration.
func undersOf(terms []int) ([]int, bool) {
	if !within(len(terms), minTerms, maxTerms) || !within(terms[0], 0, api.MaxOver) {
		return nil, false
	}
	unders := []int{1}
	before, last := 0, 1
	for _, term := range terms[1:] {
		if !within(term, 1, api.MaxOver) {
			return nil, false
		}
		before, last = last, term*last+before
		if last > maxUnder { // the later ones are no less
			return nil, false
		}
		unders = append(unders, last)
	}
	return unders, true
}
