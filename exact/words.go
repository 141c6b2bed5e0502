package exact

import (
	"cmp"
	"math"
	"math/bits"
)

// words are the absolute value of an integer, the lowest word first. Of those
// that are compared, added, subtracted or divided by, the last one is not 0.
// They are never changed once another function has got them, so integers may
// share them.
type words []uint64

// trimmed returns words without zeros at their end.
func (x words) trimmed() words {
	for len(x) > 0 && x[len(x)-1] == 0 {
		x = x[:len(x)-1]
	}
	return x
}

// compare returns -1, 0 or 1.
func compare(x, y words) int {
	if len(x) != len(y) {
		return cmp.Compare(len(x), len(y))
	}
	for i := len(x) - 1; i >= 0; i-- {
		if x[i] != y[i] {
			return cmp.Compare(x[i], y[i])
		}
	}
	return 0
}

// sum returns x + y.
func sum(x, y words) words {
	if len(x) < len(y) {
		x, y = y, x
	}
	z := make(words, len(x)+1)
	copy(z, x)
	z.add(y)
	return z
}

// difference returns x - y; y is at most x.
func difference(x, y words) words {
	z := make(words, len(x))
	copy(z, x)
	z.subtract(y, 1)
	return z
}

// add adds y, which is not longer, to x, and returns what is carried out of x.
func (x words) add(y words) uint64 {
	var carry uint64
	for i := range x {
		var more uint64
		if i < len(y) {
			more = y[i]
		}
		x[i], carry = bits.Add64(x[i], more, carry)
	}
	return carry
}

// subtract subtracts y times a word from x, which is not shorter than y, and
// returns what is borrowed from beyond x.
func (x words) subtract(y words, times uint64) uint64 {
	var borrow uint64 // what is still to be subtracted, at most a word less 1
	for i := range x {
		var high, low, carry uint64
		if i < len(y) {
			high, low = bits.Mul64(y[i], times)
		}
		low, carry = bits.Add64(low, borrow, 0)
		x[i], borrow = bits.Sub64(x[i], low, 0)
		borrow += high + carry
	}
	return borrow
}

// product returns x times y.
func product(x, y words) words {
	z := make(words, len(x)+len(y))
	for i, a := range x {
		var over uint64
		for j, b := range y {
			high, low := bits.Mul64(a, b)
			var carry uint64
			low, carry = bits.Add64(low, over, 0)
			high += carry
			z[i+j], carry = bits.Add64(z[i+j], low, 0)
			over = high + carry
		}
		z[i+len(y)] = over
	}
	return z
}

// short returns the quotient and the remainder of x by one word, not 0.
func (x words) short(y uint64) (words, uint64) {
	quotient := make(words, len(x))
	var rest uint64
	for i := len(x) - 1; i >= 0; i-- {
		quotient[i], rest = bits.Div64(rest, x[i], y)
	}
	return quotient, rest
}

// divided returns the quotient and the remainder of x by y, which is not 0: long
// division (Knuth's algorithm D). x and y are first shifted so that the highest
// bit of y is set; then a word of the quotient, guessed from the highest words,
// is at most 2 too great.
func divided(x, y words) (quotient, rest words) {
	n := len(y)
	if len(x) < n {
		return nil, x
	}
	shift := bits.LeadingZeros64(y[n-1])
	rest, y = x.shifted(shift), y.shifted(shift).trimmed()
	quotient = make(words, len(x)-n+1)
	for i := len(quotient) - 1; i >= 0; i-- {
		part := rest[i : i+n+1]
		guess := uint64(math.MaxUint64)
		if part[n] < y[n-1] {
			guess, _ = bits.Div64(part[n], part[n-1], y[n-1])
		}
		missing := part.subtract(y, guess)
		for missing > 0 {
			guess--
			missing -= part.add(y)
		}
		quotient[i] = guess
	}
	return quotient, rest.shiftedBack(shift)
}

// shifted returns x times 2 to the power of a number below 64, with one word more.
func (x words) shifted(by int) words {
	z := make(words, len(x)+1)
	for i, w := range x {
		z[i] |= w << by
		z[i+1] = w >> (64 - by)
	}
	return z
}

// shiftedBack returns x divided by 2 to the power of a number below 64.
func (x words) shiftedBack(by int) words {
	z := make(words, len(x))
	for i, w := range x {
		z[i] |= w >> by
		if i > 0 {
			z[i-1] |= w << (64 - by)
		}
	}
	return z
}
