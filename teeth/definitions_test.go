package teeth_test

// The definitions of the chapter, followed word by word: what the package's results
// are held against. They are slow, and share no code with it.

import (
	"math/big"
	"slices"

	"bolster/api"
)

func rat(over, under int) *big.Rat { return big.NewRat(int64(over), int64(under)) }

// distance returns how far two fractions are apart.
func distance(x, y *big.Rat) *big.Rat {
	d := new(big.Rat).Sub(x, y)
	return d.Abs(d)
}

func gcd(a, b int) int {
	for b > 0 {
		a, b = b, a%b
	}
	return a
}

// areTerms reports whether numbers are the terms of some fraction.
func areTerms(terms []int) bool {
	for i, a := range terms {
		if a < 0 || i > 0 && a < 1 || i > 0 && i == len(terms)-1 && a < 2 {
			return false
		}
	}
	return len(terms) > 0
}

// valueOf returns a(0) + 1/(a(1) + 1/(.. + 1/a(k))).
func valueOf(terms []int) *big.Rat {
	x := rat(terms[len(terms)-1], 1)
	for i := len(terms) - 2; i >= 0; i-- {
		x.Inv(x).Add(x, rat(terms[i], 1))
	}
	return x
}

// underOf returns the denominator of the i-th convergent in lowest terms.
func underOf(terms []int, i int) int { return int(valueOf(terms[:i+1]).Denom().Int64()) }

// nearOf tries, for each denominator, the fractions on both sides of over/under.
func nearOf(over, under, most int) (int, int) {
	bestP, bestQ, bestOff := 0, 0, 0
	for q := 1; q <= most; q++ {
		below := over * q / under
		for p := below; p <= below+1; p++ {
			off := max(over*q-p*under, p*under-over*q)
			if bestQ == 0 || off*bestQ < bestOff*q { // equal ones have a greater q, or p
				bestP, bestQ, bestOff = p, q, off
			}
		}
	}
	return bestP, bestQ
}

// betweenOf tries denominators from 1 on, each with the least numerator.
func betweenOf(a, b, c, d int) (int, int) {
	for q := 1; ; q++ {
		if p := a*q/b + 1; p*d < c*q {
			return p, q
		}
	}
}

// floorRootOf returns the greatest number whose square is at most n.
func floorRootOf(n int) int {
	r := 0
	for (r+1)*(r+1) <= n {
		r++
	}
	return r
}

func isSquare(n *big.Int) bool {
	r := new(big.Int).Sqrt(n)
	return r.Mul(r, r).Cmp(n) == 0
}

// roots yields all numbers whose root is taken, without the squares.
func roots(yield func(int) bool) {
	for d := 2; d <= api.MaxRoot; d++ {
		if r := floorRootOf(d); r*r != d && !yield(d) {
			return
		}
	}
}

// rootTermsOf returns many terms of a square root: those that all numbers have that
// agree with it in 300 digits.
func rootTermsOf(d int) []int {
	scale := new(big.Int).Exp(big.NewInt(10), big.NewInt(300), nil)
	low := new(big.Int).Mul(scale, scale)
	low.Sqrt(low.Mul(low, big.NewInt(int64(d))))
	high := new(big.Int).Add(low, big.NewInt(1))
	below, above := longTerms(low, scale), longTerms(high, scale)
	i := 0
	for below[i].Cmp(above[i]) == 0 {
		i++
	}
	var terms []int
	for _, a := range below[:i] {
		terms = append(terms, int(a.Int64()))
	}
	return terms
}

// longTerms returns the terms of a fraction of any size.
func longTerms(over, under *big.Int) []*big.Int {
	var terms []*big.Int
	for under.Sign() > 0 {
		a, rest := new(big.Int).QuoRem(over, under, new(big.Int))
		terms = append(terms, a)
		over, under = under, rest
	}
	return terms
}

// periodOf returns the shortest row that repeats in numbers to their end.
func periodOf(numbers []int) []int {
	p := 1
	for !slices.Equal(numbers[p:], numbers[:len(numbers)-p]) {
		p++
	}
	return numbers[:p]
}

// solves reports whether x·x - d·y·y is a sign.
func solves(d, sign int, x, y *big.Int) bool {
	left := new(big.Int).Mul(x, x)
	right := new(big.Int).Mul(y, y)
	right.Mul(right, big.NewInt(int64(d)))
	return left.Sub(left, right).Cmp(big.NewInt(int64(sign))) == 0
}

// partner returns the y that belongs to an x, if x is 1 or more and there is one that is 1 or more.
func partner(d, sign int, x *big.Int) (*big.Int, bool) {
	if x.Sign() <= 0 {
		return nil, false
	}
	y := new(big.Int).Mul(x, x)
	y.Sub(y, big.NewInt(int64(sign)))
	rest := new(big.Int)
	y.QuoRem(y, big.NewInt(int64(d)), rest)
	if rest.Sign() != 0 || y.Sign() <= 0 || !isSquare(y) {
		return nil, false
	}
	return y.Sqrt(y), true
}

// isLeast reports whether a solution is the least one. Otherwise x + y√d is a power of
// the least one, u + v√d, so that 2u differs from a root of 2x by less than 2.
func isLeast(d, sign int, x *big.Int) bool {
	twice := new(big.Int).Lsh(x, 1)
	for k := 2; k <= twice.BitLen(); k++ {
		near := new(big.Int).Rsh(powerRoot(twice, k), 1)
		for off := int64(-2); off <= 2; off++ {
			u := new(big.Int).Add(near, big.NewInt(off))
			if _, ok := partner(d, sign, u); ok && u.Cmp(x) < 0 {
				return false
			}
		}
	}
	return true
}

// powerRoot returns the greatest number whose k-th power is at most n.
func powerRoot(n *big.Int, k int) *big.Int {
	r := new(big.Int)
	for bit := n.BitLen()/k + 1; bit >= 0; bit-- {
		more := new(big.Int).SetBit(r, bit, 1)
		if new(big.Int).Exp(more, big.NewInt(int64(k)), nil).Cmp(n) <= 0 {
			r = more
		}
	}
	return r
}

// isTrain reports whether pairs are a train of some wheels.
func isTrain(n int, train [][]int, pairs int) bool {
	seen := map[int]bool{}
	for _, p := range train {
		if len(p) != 2 {
			return false
		}
		for _, w := range p {
			if w < 0 || w >= n || seen[w] {
				return false
			}
			seen[w] = true
		}
	}
	return len(train) == pairs && slices.IsSortedFunc(train, slices.Compare)
}

func ratioOf(wheels []int, train [][]int) *big.Rat {
	r := rat(1, 1)
	for _, p := range train {
		r.Mul(r, rat(wheels[p[0]], wheels[p[1]]))
	}
	return r
}

// trainOf tries all lists of pairs of wheels.
func trainOf(over, under int, wheels []int, pairs int) [][]int {
	var all [][]int
	for a := range wheels {
		for b := range wheels {
			all = append(all, []int{a, b})
		}
	}
	var best [][]int
	var least *big.Rat
	var try func(train [][]int)
	try = func(train [][]int) {
		if !isTrain(len(wheels), train, len(train)) {
			return
		}
		if len(train) < pairs {
			for _, p := range all {
				try(append(slices.Clone(train), p))
			}
			return
		}
		off := distance(ratioOf(wheels, train), rat(over, under))
		if best == nil || off.Cmp(least) < 0 || off.Cmp(least) == 0 && slices.CompareFunc(train, best, slices.Compare) < 0 {
			best, least = train, off
		}
	}
	try(nil)
	return best
}

// areDigits reports whether numbers are Ostrowski's digits of some number.
func areDigits(terms, digits []int) bool {
	if len(digits) != len(terms)-1 {
		return false
	}
	for i := 1; i <= len(digits); i++ {
		c, a := digits[i-1], terms[i]
		if c < 0 || c > a || i == 1 && c == a || i > 1 && c == a && digits[i-2] != 0 {
			return false
		}
	}
	return true
}

// numberOf returns the sum of c(i) times q(i - 1).
func numberOf(terms, digits []int) int {
	n := 0
	for i := 1; i <= len(digits); i++ {
		n += digits[i-1] * underOf(terms, i-1)
	}
	return n
}

// allDigits returns all lists of numbers from -1 to one more than the terms.
func allDigits(terms []int) [][]int {
	lists := [][]int{nil}
	for _, a := range terms[1:] {
		var next [][]int
		for _, l := range lists {
			for c := -1; c <= a+1; c++ {
				next = append(next, append(slices.Clone(l), c))
			}
		}
		lists = next
	}
	return lists
}

// beatsOf returns the beats of both letters up to n.
func beatsOf(d, n int) (a, b map[int]bool) {
	a, b = map[int]bool{}, map[int]bool{}
	rootA, rootB := 0, 0
	for k := 1; k <= n; k++ {
		for (rootA+1)*(rootA+1) <= k*k*d {
			rootA++
		}
		for (rootB+1)*(rootB+1)*d <= k*k {
			rootB++
		}
		a[k+rootA], b[k+rootB] = true, true
	}
	return a, b
}

// isTriple reports whether three numbers are a Markov triple.
func isTriple(x, y, z int) bool {
	return 1 <= x && x <= y && y <= z && x*x+y*y+z*z == 3*x*y*z
}

// thirdOf returns the numbers that make triples of two numbers, if they are at least as
// great: they solve z·z - 3·x·y·z + x·x + y·y = 0.
func thirdOf(x, y int) []int {
	p, q := big.NewInt(int64(3*x*y)), big.NewInt(int64(x*x+y*y))
	inside := new(big.Int).Mul(p, p)
	inside.Sub(inside, q.Lsh(q, 2))
	if inside.Sign() < 0 || !isSquare(inside) {
		return nil
	}
	root := inside.Sqrt(inside)
	var l []int
	for _, twice := range []*big.Int{new(big.Int).Sub(p, root), new(big.Int).Add(p, root)} {
		if z := new(big.Int).Rsh(twice, 1); twice.Bit(0) == 0 && z.Cmp(big.NewInt(int64(y))) >= 0 {
			l = append(l, int(z.Int64()))
		}
	}
	return l
}

// markovOf returns all Markov numbers up to some number: the greatest number of a triple
// (but for that of 1, 1, 1) is greater than the other two, which are Markov numbers, too.
func markovOf(most int) []int {
	all := []int{1}
	for i := 0; i < len(all); i++ {
		for j := 0; j <= i; j++ {
			for _, z := range thirdOf(min(all[i], all[j]), max(all[i], all[j])) {
				if z <= most && !slices.Contains(all, z) {
					all = append(all, z)
				}
			}
		}
	}
	slices.Sort(all)
	return all
}
