package gear

import (
	"bolster/api"
	"bolster/exact"
)

// A ratio is a product of powers of the gear's primes, with a sign. Exponents,
// unlike the numbers that they stand for, are small.
type ratio struct {
	back      bool // below 0
	exponents []int
}

// newRatio returns over/under; over is not 0, and under is above 0.
func newRatio(over, under int, primes []int) ratio {
	r := ratio{over < 0, make([]int, len(primes))}
	for i, p := range primes {
		r.exponents[i] = exponent(over, p) - exponent(under, p)
	}
	return r
}

// exponent returns how often a number, not 0, can be divided by a prime.
func exponent(n, prime int) int {
	count := 0
	for n%prime == 0 {
		n /= prime
		count++
	}
	return count
}

// primesOf returns the primes that divide Over or Under of some belt, rising.
func primesOf(belts []api.Belt) []int {
	var primes []int
	for p := 2; p <= api.MaxTeeth; p++ {
		if isPrime(p) && divides(p, belts) {
			primes = append(primes, p)
		}
	}
	return primes
}

// isPrime reports whether a number from 2 on is a prime.
func isPrime(n int) bool {
	for d := 2; d*d <= n; d++ {
		if n%d == 0 {
			return false
		}
	}
	return true
}

// divides reports whether a number divides Over or Under of some belt.
func divides(n int, belts []api.Belt) bool {
	for _, b := range belts {
		if b.Over%n == 0 || b.Under%n == 0 {
			return true
		}
	}
	return false
}

// times returns the product of two ratios.
func (r ratio) times(s ratio) ratio {
	p := ratio{r.back != s.back, make([]int, len(r.exponents))}
	for i, e := range r.exponents {
		p.exponents[i] = e + s.exponents[i]
	}
	return p
}

// turned returns the reciprocal of a ratio.
func (r ratio) turned() ratio {
	t := ratio{r.back, make([]int, len(r.exponents))}
	for i, e := range r.exponents {
		t.exponents[i] = -e
	}
	return t
}

// isOne reports whether a ratio is 1.
func (r ratio) isOne() bool {
	for _, e := range r.exponents {
		if e != 0 {
			return false
		}
	}
	return !r.back
}

// number returns a ratio in decimal.
func (r ratio) number(primes []int) api.Num {
	over, under := exact.Of(1), exact.Of(1)
	if r.back {
		over = exact.Of(-1)
	}
	for i, p := range primes {
		e := r.exponents[i]
		over = over.Mul(power(p, e))
		under = under.Mul(power(p, -e))
	}
	if under.Cmp(exact.Of(1)) == 0 {
		return api.Num(over.String())
	}
	return api.Num(over.String() + "/" + under.String())
}

// power returns a power of a number, 1 if the exponent is below 0.
func power(n, exponent int) exact.Int {
	p := exact.Of(1)
	for range exponent {
		p = p.Mul(exact.Of(n))
	}
	return p
}
