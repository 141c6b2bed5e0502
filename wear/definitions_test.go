package wear_test

// The definitions of the chapter, followed word by word: what the package's
// results are held against. They share no code with it.

import (
	"math/big"
	"math/rand"
	"slices"

	"bolster/api"
)

// wheels yields lives of many kinds, as Nums.
func wheels(yield func([]api.Num) bool) {
	for _, l := range [][]api.Num{
		{"1"}, {"1/2", "1/2"}, {"0", "1"}, {"0", "0", "0", "1"}, {"0", "1/2", "0", "1/2"}, {"0", "0", "1/3", "0", "0", "2/3"},
		{"0", "0", "0", "0", "0", "1/4", "0", "0", "0", "1/4", "0", "1/2"}, {"1/6", "1/3", "1/2"}, {"3/5", "0", "2/5"}, {"999998/999999", "1/999999"},
		{"1/999999", "999998/999999"}, {"0", "0", "0", "0", "0", "0", "0", "0", "0", "0", "0", "1"},
		{"1/12", "1/12", "1/12", "1/12", "1/12", "1/12", "1/12", "1/12", "1/12", "1/12", "1/12", "1/12"}, wide()} {
		if !yield(l) {
			return
		}
	}
	random := rand.New(rand.NewSource(1))
	for i := range 150 {
		m := 1 + i%api.MaxAge
		if !yield(randomLives(random, m, i%3)) {
			return
		}
	}
}

// randomLives returns m lives; those of the kind 1 have few ages, and those of the
// kind 2 a great denominator.
func randomLives(random *rand.Rand, m, kind int) []api.Num {
	most := []int64{8, 8, 80000}[kind]
	weights := make([]int64, m)
	var total int64
	for j := range weights {
		if kind != 1 || random.Intn(3) == 0 || j == m-1 {
			weights[j] = random.Int63n(most)
		}
		if j == m-1 {
			weights[j]++
		}
		total += weights[j]
	}
	var l []api.Num
	for _, w := range weights {
		l = append(l, api.Num(big.NewRat(w, total).RatString()))
	}
	return l
}

// wide returns lives whose common denominator is the product of 11 primes.
func wide() []api.Num {
	primes := []int64{907, 911, 919, 929, 937, 941, 947, 953, 967, 971, 997}
	var l []api.Num
	above := big.NewRat(1, 1)
	for i, p := range primes {
		next := big.NewRat(p*int64(11-i)/12, p)
		l = append(l, api.Num(new(big.Rat).Sub(above, next).RatString()))
		above = next
	}
	return append(l, api.Num(above.RatString()))
}

// rational returns the number that a Num denotes.
func rational(num api.Num) *big.Rat {
	r, ok := new(big.Rat).SetString(string(num))
	if !ok {
		panic("no number: " + string(num))
	}
	return r
}

func text(r *big.Rat) api.Num { return api.Num(r.RatString()) }

func texts(l []*big.Rat) []api.Num {
	var nums []api.Num
	for _, r := range l {
		nums = append(nums, text(r))
	}
	return nums
}

// chances returns the chance of j at j, from 0 to m.
func chances(lives []api.Num) []*big.Rat {
	l := []*big.Rat{new(big.Rat)}
	for _, num := range lives {
		l = append(l, rational(num))
	}
	return l
}

// times returns the sum of l[i] times more[i].
func times(l, more []*big.Rat) *big.Rat {
	total := new(big.Rat)
	for i, r := range l {
		total.Add(total, new(big.Rat).Mul(r, more[i]))
	}
	return total
}

func sumOf(l []*big.Rat) *big.Rat {
	total := new(big.Rat)
	for _, r := range l {
		total.Add(total, r)
	}
	return total
}

// renewals returns u(0) to u(n).
func renewals(lives []api.Num, n int) []*big.Rat {
	f, u := chances(lives), []*big.Rat{big.NewRat(1, 1)}
	for k := 1; k <= n; k++ {
		last := slices.Clone(u[k-min(k, len(lives)):])
		slices.Reverse(last)
		u = append(u, times(f[1:len(last)+1], last))
	}
	return u
}

// above returns the chance that T is above j.
func above(lives []api.Num, j int) *big.Rat {
	f := chances(lives)
	return sumOf(f[min(j+1, len(f)):])
}

func meanOf(lives []api.Num) *big.Rat {
	total := new(big.Rat)
	for j, f := range chances(lives) {
		total.Add(total, new(big.Rat).Mul(f, big.NewRat(int64(j), 1)))
	}
	return total
}

// spanOf returns the greatest number that divides all ages with a chance.
func spanOf(lives []api.Num) int {
	for d := len(lives); ; d-- {
		divides := true
		for j, num := range lives {
			divides = divides && (num == "0" || (j+1)%d == 0)
		}
		if divides {
			return d
		}
	}
}

// spares returns the chance that k wheels last for at most n periods: the first one
// lasts for j, and the others for at most n - j.
func spares(lives []api.Num, n, k int) *big.Rat {
	known := map[[2]int]*big.Rat{}
	f := chances(lives)
	var of func(n, k int) *big.Rat
	of = func(n, k int) *big.Rat {
		if n < 0 {
			return new(big.Rat)
		}
		if k == 0 {
			return big.NewRat(1, 1)
		}
		if r := known[[2]int{n, k}]; r != nil {
			return r
		}
		total := new(big.Rat)
		for j := 1; j < len(f); j++ {
			total.Add(total, new(big.Rat).Mul(f[j], of(n-j, k-1)))
		}
		known[[2]int{n, k}] = total
		return total
	}
	return of(n, k)
}

// together tries the lives of k wheels, one after the other, and returns the chance
// that they last for at most n periods.
func together(lives []api.Num, n, k int) *big.Rat {
	total := new(big.Rat)
	var try func(left, wheels int, chance *big.Rat)
	try = func(left, wheels int, chance *big.Rat) {
		if wheels == 0 {
			if left >= 0 {
				total.Add(total, chance)
			}
			return
		}
		for j, f := range chances(lives) {
			if f.Sign() > 0 {
				try(left-j, wheels-1, new(big.Rat).Mul(chance, f))
			}
		}
	}
	try(n, k, big.NewRat(1, 1))
	return total
}

// rates returns the rates of the ages from 1 on.
func rates(lives []api.Num, planned, failed api.Num) []*big.Rat {
	var l []*big.Rat
	both, periods := []*big.Rat{rational(failed), rational(planned)}, new(big.Rat)
	for a := 1; a <= len(lives); a++ {
		more := above(lives, a)
		most := new(big.Rat).Sub(big.NewRat(1, 1), more)
		periods.Add(periods, above(lives, a-1))
		l = append(l, new(big.Rat).Quo(times(both, []*big.Rat{most, more}), periods))
	}
	return l
}

// history tells what one wheel costs and how long it is used, for each life that it
// may have, if it is replaced at an age; the rate is the quotient of the means.
func history(lives []api.Num, planned, failed api.Num, age int) *big.Rat {
	cost, periods := new(big.Rat), new(big.Rat)
	for j, f := range chances(lives) {
		c := rational(planned)
		if j <= age {
			c = rational(failed)
		}
		cost.Add(cost, c.Mul(c, f))
		periods.Add(periods, new(big.Rat).Mul(f, big.NewRat(int64(min(j, age)), 1)))
	}
	return cost.Quo(cost, periods)
}

// belong reports whether each renewal from 1 on is the sum over j of life j times
// the renewal j before. No other lives belong to renewals that begin with 1.
func belong(lives, renewals []*big.Rat) bool {
	for k := 1; k < len(renewals); k++ {
		before := slices.Clone(renewals[:k])
		slices.Reverse(before)
		if times(lives[:k], before).Cmp(renewals[k]) != 0 {
			return false
		}
	}
	return len(lives) == len(renewals)-1
}

// costs are pairs of costs, planned and failed.
func costs() [][2]api.Num {
	return [][2]api.Num{{"1", "4"}, {"1", "1"}, {"4", "1"}, {"1/3", "5/2"}, {"999999", "1/999999"}, {"1/999999", "999999"}, {"7/10", "9/10"}, {"123/457", "99991/3"}}
}
