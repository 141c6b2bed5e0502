package exact

import "math/bits"

// Common returns the greatest common divisor of x and y, or 0 if both are 0.
//
// It is Euclid's algorithm, as Lehmer does it: as long as the highest bits of both
// numbers tell the quotients, its steps are only noted, and then done all at once.
func (x Int) Common(y Int) Int {
	x, y = x.Abs(), y.Abs()
	if x.Cmp(y) < 0 {
		x, y = y, x
	}
	for len(y.words) > 1 {
		shift := x.words.length() - 62
		a, b, c, d := steps(int(x.words.from(shift)), int(y.words.from(shift)))
		if b == 0 {
			x, y = y, x.rest(y)
			continue
		}
		x, y = x.mixed(a, y, b), x.mixed(c, y, d)
	}
	for y.Sign() != 0 {
		x, y = y, x.rest(y)
	}
	return x
}

// rest returns x less the multiple of y that Floor tells of. y is not 0.
func (x Int) rest(y Int) Int { return x.Sub(x.Floor(y).Mul(y)) }

// mixed returns a times x plus b times y.
func (x Int) mixed(a int, y Int, b int) Int {
	return x.Mul(Of(a)).Add(y.Mul(Of(b)))
}

// steps returns what the steps of Euclid's algorithm make of the numbers X and Y,
// aX + bY and cX + dY, that begin with the same quotients for all X and Y of which
// x and y, at most 62 bits, are the highest bits (Knuth's algorithm L).
func steps(x, y int) (a, b, c, d int) {
	a, d = 1, 1
	for y+c != 0 && y+d != 0 {
		quotient := (x + a) / (y + c)
		if quotient != (x+b)/(y+d) {
			break
		}
		a, c = c, a-quotient*c
		b, d = d, b-quotient*d
		x, y = y, x-quotient*y
	}
	return a, b, c, d
}

// length returns the number of bits of x, which is not 0.
func (x words) length() int {
	return 64*(len(x)-1) + bits.Len64(x[len(x)-1])
}

// from returns the 64 bits of x from a bit on; bit 0 is the lowest one.
func (x words) from(bit int) uint64 {
	first, by := bit/64, bit%64
	var w uint64
	if first < len(x) {
		w = x[first] >> by
	}
	if first+1 < len(x) {
		w |= x[first+1] << (64 - by)
	}
	return w
}
