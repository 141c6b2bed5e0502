package gear_test

// The definitions of the chapter, followed word by word: what the package's
// results are held against. They are slow, and share no code with it.

import (
	"math/big"
	"math/rand"
	"slices"

	"bolster/api"
)

// A gear as it is given to the functions.
type wheels struct {
	n     int
	belts []api.Belt
}

// gears yields gears of many kinds: such that turn, such that nearly do, and others.
func gears(yield func(wheels) bool) {
	for _, g := range some() {
		if !yield(g) {
			return
		}
	}
	random := rand.New(rand.NewSource(2))
	for i := range 1500 {
		n := 1 + i%7
		if !yield(wheels{n, randomBelts(random, n, random.Intn(10), i%3)}) {
			return
		}
	}
	for _, n := range []int{2, 5, 8, api.MaxWheels} {
		for kind := range 3 {
			if !yield(wheels{n, randomBelts(random, n, api.MaxBelts, kind)}) {
				return
			}
		}
	}
}

// some are gears of special kinds.
func some() []wheels {
	l := []wheels{{n: 1}, {n: 4}, {n: api.MaxWheels}}
	for _, over := range []int{6, 5, -6} {
		l = append(l, wheels{3, []api.Belt{{A: 0, B: 1, Over: 2, Under: 1}, {A: 1, B: 2, Over: 3, Under: 1}, {A: 0, B: 2, Over: over, Under: 1}}})
	}
	l = append(l, wheels{2, []api.Belt{{A: 0, B: 1, Over: 1, Under: 1}, {A: 0, B: 1, Over: -1, Under: 1}}})
	l = append(l, wheels{2, []api.Belt{{A: 0, B: 1, Over: 4, Under: 6}, {A: 1, B: 0, Over: 3, Under: 2}}})
	l = append(l, wheels{2, []api.Belt{{A: 0, B: 1, Over: -4, Under: 6}, {A: 1, B: 0, Over: -3, Under: 2}}})
	l = append(l, wheels{5, []api.Belt{{A: 4, B: 2, Over: 1, Under: 2}, {A: 3, B: 1, Over: -5, Under: 7}, {A: 1, B: 3, Over: 1, Under: 1}}})
	// Powers of 2 and 3 in many belts: the basis needs Euclid's algorithm.
	l = append(l, wheels{2, []api.Belt{{A: 0, B: 1, Over: 1, Under: 1}, {A: 0, B: 1, Over: 64, Under: 729}, {A: 1, B: 0, Over: 512, Under: 27}, {A: 0, B: 1, Over: 256, Under: 243}}})
	var chain, twice []api.Belt
	for w := range api.MaxWheels - 1 {
		chain = append(chain, api.Belt{A: w, B: w + 1, Over: api.MaxTeeth, Under: 999 - 2*w})
	}
	for i := range api.MaxBelts {
		twice = append(twice, api.Belt{A: i % 2, B: 1 - i%2, Over: 1 + i/4, Under: 1})
	}
	return append(l, wheels{api.MaxWheels, chain}, wheels{2, twice})
}

// randomBelts returns belts that keep random speeds, but for some of them.
func randomBelts(random *rand.Rand, n, count, kind int) []api.Belt {
	if n == 1 {
		return nil
	}
	var over, under []int
	for range n {
		over = append(over, (1+random.Intn(5))*(1-2*random.Intn(2)))
		under = append(under, 1+random.Intn(4))
	}
	var belts []api.Belt
	for range count {
		a := random.Intn(n)
		b := (a + 1 + random.Intn(n-1)) % n
		belt := api.Belt{A: a, B: b, Over: over[b] * under[a], Under: under[b] * over[a]}
		if kind == 2 || kind == 1 && random.Intn(5) == 0 {
			belt.Over *= 1 + random.Intn(6)
			belt.Under *= 1 + random.Intn(3)
		}
		if belt.Under < 0 {
			belt.Over, belt.Under = -belt.Over, -belt.Under
		}
		if kind == 2 && random.Intn(2) == 0 {
			belt.Over = -belt.Over
		}
		belts = append(belts, belt)
	}
	return belts
}

// A ring is its belts, rising and as a bit for each, and its ratio, walked around
// in one direction.
type ring struct {
	belts []int
	mask  int
	ratio *big.Rat
}

func (r ring) blocks() bool { return r.ratio.Cmp(big.NewRat(1, 1)) != 0 }

// ringsOf tries every set of belts.
func ringsOf(g wheels) []ring {
	var l []ring
	for mask := 1; mask < 1<<len(g.belts); mask++ {
		if r, ok := asRing(g, mask); ok {
			l = append(l, r)
		}
	}
	return l
}

// asRing walks around over a set of belts, if they are a ring.
func asRing(g wheels, mask int) (ring, bool) {
	var belts []int
	ends := make([]int, g.n)
	for i, b := range g.belts {
		if mask>>i&1 == 1 {
			belts = append(belts, i)
			ends[b.A]++
			ends[b.B]++
		}
	}
	for _, count := range ends {
		if count != 0 && count != 2 {
			return ring{}, false
		}
	}
	start := g.belts[belts[0]].A
	at, ratio, left := start, big.NewRat(1, 1), mask
	for moved := true; moved; {
		moved = false
		for _, i := range belts {
			b := g.belts[i]
			if left>>i&1 == 0 || at != b.A && at != b.B {
				continue
			}
			r := big.NewRat(int64(b.Over), int64(b.Under))
			if at == b.A {
				at = b.B
				ratio.Mul(ratio, r)
			} else {
				at = b.A
				ratio.Quo(ratio, r)
			}
			left &^= 1 << i
			moved = true
			break
		}
	}
	return ring{belts, mask, ratio}, left == 0 && at == start
}

// less reports whether a list is shorter or, of the same length, less.
func less(a, b []int) bool {
	return len(a) < len(b) || len(a) == len(b) && slices.Compare(a, b) < 0
}

// blockOf returns the belts of the first shortest ring that blocks, if there is one.
func blockOf(rings []ring) []int {
	var least []int
	for _, r := range rings {
		if r.blocks() && (least == nil || less(r.belts, least)) {
			least = r.belts
		}
	}
	return least
}

// turnsWith reports whether no ring among some belts blocks.
func turnsWith(rings []ring, mask int) bool {
	for _, r := range rings {
		if r.mask&^mask == 0 && r.blocks() {
			return false
		}
	}
	return true
}

func slipOf(g wheels, rings []ring) []int {
	all := 1<<len(g.belts) - 1
	var least []int
	found := false
	for mask := range all + 1 {
		var belts []int
		for i := range g.belts {
			if mask>>i&1 == 1 {
				belts = append(belts, i)
			}
		}
		if (!found || less(belts, least)) && turnsWith(rings, all&^mask) {
			least, found = belts, true
		}
	}
	return least
}

// partsOf returns the first wheel of the part of each wheel.
func partsOf(g wheels) []int {
	first := make([]int, g.n)
	for w := range first {
		first[w] = w
	}
	for range g.n {
		for _, b := range g.belts {
			first[b.A] = min(first[b.A], first[b.B])
			first[b.B] = first[b.A]
		}
	}
	return first
}

func primesOf(g wheels) []int {
	var l []int
	for p := 2; p <= api.MaxTeeth; p++ {
		divides := func(b api.Belt) bool { return b.Over%p == 0 || b.Under%p == 0 }
		if slices.ContainsFunc(g.belts, divides) && big.NewInt(int64(p)).ProbablyPrime(0) {
			l = append(l, p)
		}
	}
	return l
}

// exponentsOf returns the exponents of the absolute value of a ratio.
func exponentsOf(ratio *big.Rat, primes []int) []*big.Int {
	var l []*big.Int
	for _, p := range primes {
		l = append(l, big.NewInt(int64(timesIn(ratio.Num(), p)-timesIn(ratio.Denom(), p))))
	}
	return l
}

func timesIn(v *big.Int, p int) int {
	v = new(big.Int).Set(v)
	count, rest := 0, new(big.Int)
	for {
		v.QuoRem(v, big.NewInt(int64(p)), rest)
		if rest.Sign() != 0 {
			return count
		}
		count++
	}
}

// basisOf puts the exponents of one ring after the other into rows by the extended
// algorithm of Euclid, and reduces at the end.
func basisOf(rings []ring, primes []int) [][]*big.Int {
	pivots := make([][]*big.Int, len(primes))
	for _, r := range rings {
		row := exponentsOf(r.ratio, primes)
		for c := range primes {
			if row[c].Sign() == 0 {
				continue
			}
			if pivots[c] == nil {
				pivots[c] = scaled(row, int64(row[c].Sign()))
				break
			}
			pivots[c], row = joined(pivots[c], row, c)
		}
	}
	var basis [][]*big.Int
	for c, p := range pivots {
		if p == nil {
			continue
		}
		for i, r := range basis {
			q := new(big.Int).Div(r[c], p[c])
			basis[i] = combined(r, p, big.NewInt(1), q.Neg(q))
		}
		basis = append(basis, p)
	}
	return basis
}

func scaled(row []*big.Int, by int64) []*big.Int {
	return combined(row, row, big.NewInt(by), new(big.Int))
}

// combined returns s times a plus t times b.
func combined(a, b []*big.Int, s, t *big.Int) []*big.Int {
	var l []*big.Int
	for i := range a {
		v := new(big.Int).Mul(a[i], s)
		l = append(l, v.Add(v, new(big.Int).Mul(b[i], t)))
	}
	return l
}

// joined returns two rows with the same integer combinations: the first one has
// the greatest common divisor in a column, the second one 0.
func joined(p, r []*big.Int, c int) (first, second []*big.Int) {
	if r[c].Sign() < 0 {
		r = scaled(r, -1)
	}
	s, t := new(big.Int), new(big.Int)
	d := new(big.Int).GCD(s, t, p[c], r[c])
	a, b := new(big.Int).Quo(r[c], d), new(big.Int).Quo(p[c], d)
	return combined(p, r, s, t), combined(p, r, a, b.Neg(b))
}
