package teeth

import (
	"cmp"
	"iter"
	"math/bits"

	"bolster/api"
)

// A fraction is over/under. Both are 0 or more, and not both are 0.
type fraction struct {
	over, under int
}

// isFraction reports whether two arguments are a fraction of the chapter.
func isFraction(over, under int) bool {
	return within(over, 1, api.MaxOver) && within(under, 1, api.MaxOver)
}

// within reports whether a number is from least to most.
func within(v, least, most int) bool { return least <= v && v <= most }

// termsOf yields the terms of a fraction.
func termsOf(over, under int) iter.Seq[int] {
	return func(yield func(int) bool) {
		for a, b := over, under; b > 0; a, b = b, a%b {
			if !yield(a / b) {
				return
			}
		}
	}
}

// plus returns the fraction whose numbers are those of f and so many times those of g:
// of two convergents that follow each other it makes the next one.
func (f fraction) plus(times int, g fraction) fraction {
	return fraction{f.over + times*g.over, f.under + times*g.under}
}

// less returns the fraction less a whole number that is at most as great.
func (f fraction) less(whole int) fraction {
	return fraction{f.over - whole*f.under, f.under}
}

// turned returns 1 divided by the fraction.
func (f fraction) turned() fraction { return fraction{f.under, f.over} }

// closer returns -1 if f is closer to x than g, 1 if g is closer, and otherwise 0.
// Differences of trains, multiplied by denominators, do not fit into a word.
func (x fraction) closer(f, g fraction) int {
	high, low := bits.Mul64(x.off(f), uint64(g.under))
	otherHigh, otherLow := bits.Mul64(x.off(g), uint64(f.under))
	return cmp.Or(cmp.Compare(high, otherHigh), cmp.Compare(low, otherLow))
}

// off returns the difference of two fractions, multiplied by both denominators.
func (x fraction) off(f fraction) uint64 {
	a, b := x.over*f.under, f.over*x.under
	return uint64(max(a, b) - min(a, b))
}
