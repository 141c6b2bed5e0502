// Package exact computes with integers of any size. It is no layer: layers whose
// results may be greater than a word use it.
package exact

import (
	"cmp"
	"slices"
	"strconv"
	"strings"
)

// Int is an integer of any size. The zero value is 0. No method changes it.
type Int struct {
	negative bool
	words    words // of the absolute value
}

// Of returns an integer that fits into a word.
func Of(v int) Int {
	if v < 0 {
		return signed(true, words{-uint64(v)})
	}
	return signed(false, words{uint64(v)})
}

// signed returns the integer with a sign and an absolute value, which is kept.
func signed(negative bool, w words) Int {
	w = w.trimmed()
	return Int{negative && len(w) > 0, w}
}

// Sign returns -1, 0 or 1.
func (x Int) Sign() int {
	if x.negative {
		return -1
	}
	return min(len(x.words), 1)
}

// Cmp returns -1 if x is less than y, 0 if they are equal, and otherwise 1.
func (x Int) Cmp(y Int) int {
	if x.Sign() != y.Sign() {
		return cmp.Compare(x.Sign(), y.Sign())
	}
	if x.negative {
		return compare(y.words, x.words)
	}
	return compare(x.words, y.words)
}

// Neg returns -x.
func (x Int) Neg() Int { return signed(!x.negative, x.words) }

// Abs returns the absolute value of x.
func (x Int) Abs() Int { return signed(false, x.words) }

// Add returns x + y.
func (x Int) Add(y Int) Int {
	if x.negative == y.negative {
		return signed(x.negative, sum(x.words, y.words))
	}
	if compare(x.words, y.words) < 0 {
		x, y = y, x
	}
	return signed(x.negative, difference(x.words, y.words))
}

// Sub returns x - y.
func (x Int) Sub(y Int) Int { return x.Add(y.Neg()) }

// Mul returns x times y.
func (x Int) Mul(y Int) Int {
	return signed(x.negative != y.negative, product(x.words, y.words))
}

// Floor returns the greatest integer that is at most x/y. y is not 0.
func (x Int) Floor(y Int) Int {
	quotient, rest := divided(x.words, y.words)
	q := signed(x.negative != y.negative, quotient)
	if x.negative != y.negative && len(rest.trimmed()) > 0 {
		return q.Sub(Of(1))
	}
	return q
}

// String returns x in decimal.
func (x Int) String() string {
	const digits, base = 19, 10_000_000_000_000_000_000 // the greatest power of ten in a word
	var parts []string
	rest := x.words
	for len(rest) > 0 {
		quotient, part := rest.short(base)
		text := strconv.FormatUint(part, 10)
		rest = quotient.trimmed()
		if len(rest) > 0 {
			text = strings.Repeat("0", digits-len(text)) + text
		}
		parts = append(parts, text)
	}
	switch {
	case len(parts) == 0:
		return "0"
	case x.negative:
		parts = append(parts, "-")
	}
	slices.Reverse(parts)
	return strings.Join(parts, "")
}
