package wear_test

import (
	"math/big"
	"math/rand"
	"slices"
	"strings"
	"testing"

	"bolster/api"
	"bolster/wear"
)

// numbers returns what Nums denote.
func numbers(nums []api.Num) []*big.Rat {
	var l []*big.Rat
	for _, num := range nums {
		l = append(l, rational(num))
	}
	return l
}

// E1: at each time some wheel is in use, of some age. The chances to last longer are
// the ages times the mean.
func TestE1Ages(t *testing.T) {
	for lives := range wheels {
		renewed, e := wear.Renew(lives, api.MaxTimes)
		ages, e2 := wear.Ages(lives)
		mean, _, e3 := wear.Mean(lives)
		if e != api.OK || e2 != api.OK || e3 != api.OK {
			t.Fatalf("%v: %d, %d, %d", lives, e, e2, e3)
		}
		longer := numbers(ages)
		for j, age := range longer {
			if age.Mul(age, rational(mean)).Cmp(above(lives, j)) != 0 {
				t.Fatalf("%v: above %d with the chance %s", lives, j, age)
			}
		}
		for n := range renewed {
			last := numbers(renewed[:n+1])
			slices.Reverse(last)
			count := min(len(last), len(longer))
			if times(longer[:count], last[:count]).Cmp(big.NewRat(1, 1)) != 0 {
				t.Fatalf("%v: not 1 at %d", lives, n)
			}
		}
	}
}

// E2: where Back takes renewals, its result is the lives, and zeros.
func TestE2Back(t *testing.T) {
	taken, beyond := 0, 0
	for lives := range wheels {
		for n := range api.MaxTimes + 1 {
			renewed, _ := wear.Renew(lives, n)
			l, e := wear.Back(renewed)
			if !few(renewed) {
				if e != api.ErrArg {
					t.Fatalf("Back(%v) = %v, %d", renewed, l, e)
				}
				continue
			}
			want := append(slices.Clone(lives), slices.Repeat([]api.Num{"0"}, api.MaxTimes)...)[:n]
			if e != api.OK || !slices.Equal(l, want) {
				t.Fatalf("Back(%v) = %v, %d; want %v", renewed, l, e, want)
			}
			taken++
			if n > len(lives) {
				beyond++
			}
		}
	}
	if taken < 500 || beyond < 200 {
		t.Errorf("only %d were taken, %d of them longer than lives", taken, beyond)
	}
}

// few reports whether no Num has more than 6 digits on a side.
func few(nums []api.Num) bool {
	for _, num := range nums {
		for _, side := range strings.Split(strings.TrimPrefix(string(num), "-"), "/") {
			if len(side) > 6 {
				return false
			}
		}
	}
	return true
}

// convex yields renewals above 0 of which the square of each inner one is at most
// the product of its neighbours.
func convex(yield func([]api.Num) bool) {
	halves, harmonic, factorial := []api.Num{"1"}, []api.Num{"1"}, []api.Num{"1"}
	for k := int64(1); k < 9; k++ {
		halves = append(halves, text(big.NewRat(1, 1<<k)))
		harmonic = append(harmonic, text(big.NewRat(1, k+1)))
		factorial = append(factorial, text(rational(factorial[k-1]).Mul(rational(factorial[k-1]), big.NewRat(k, 1))))
	}
	for _, l := range [][]api.Num{{"1"}, {"1", "5"}, slices.Repeat([]api.Num{"1"}, api.MaxTimes+1), halves, harmonic, factorial} {
		if !yield(l) {
			return
		}
	}
	random := rand.New(rand.NewSource(6))
	for range 300 {
		if !yield(randomConvex(random)) {
			return
		}
	}
}

// randomConvex extends renewals, by as little as a small denominator allows or more,
// until they are too long.
func randomConvex(random *rand.Rand) []api.Num {
	under := 1 + random.Int63n(40)
	l := []api.Num{"1", text(big.NewRat(1+random.Int63n(2*under), under))}
	for len(l) <= api.MaxTimes {
		last := rational(l[len(l)-1])
		least := new(big.Rat).Mul(last, last)
		least.Quo(least, rational(l[len(l)-2])).Mul(least, big.NewRat(under, 1))
		over := new(big.Int).Quo(new(big.Int).Add(least.Num(), new(big.Int).Sub(least.Denom(), big.NewInt(1))), least.Denom())
		if random.Intn(4) == 0 {
			over.Add(over, big.NewInt(1))
		}
		next := text(new(big.Rat).SetFrac(over, big.NewInt(under)))
		if !few([]api.Num{next}) {
			break
		}
		l = append(l, next)
	}
	return l
}

// E3: such renewals belong to lives that are not below 0.
func TestE3Kaluza(t *testing.T) {
	for renewed := range convex {
		u := numbers(renewed)
		for k := 1; k < len(u)-1; k++ {
			if new(big.Rat).Mul(u[k], u[k]).Cmp(new(big.Rat).Mul(u[k-1], u[k+1])) > 0 {
				t.Fatalf("%v are not convex at %d", renewed, k)
			}
		}
		l, e := wear.Back(renewed)
		if e != api.OK || len(l) != len(renewed)-1 {
			t.Fatalf("Back(%v) = %v, %d", renewed, l, e)
		}
		for _, f := range l {
			if rational(f).Sign() < 0 {
				t.Fatalf("Back(%v) = %v", renewed, l)
			}
		}
	}
	if l, _ := wear.Back([]api.Num{"1", "1", "1/2"}); len(l) != 2 || l[1] != "-1/2" {
		t.Errorf("others are not below 0: %v", l)
	}
}

// E4: as many wheels are expected to be replaced as there are renewals; more wheels
// last less often for a time, and a longer time is enough more often.
func TestE4Spares(t *testing.T) {
	const most = 16
	count := 0
	for lives := range wheels {
		if count++; count > 40 {
			break
		}
		renewed, _ := wear.Renew(lives, most)
		var before []*big.Rat
		for n := range most + 1 {
			var l []*big.Rat
			for k := range most + 2 {
				r, e := wear.Spares(lives, n, k)
				if e != api.OK {
					t.Fatalf("Spares(%v, %d, %d): %d", lives, n, k, e)
				}
				l = append(l, rational(r))
				if k > 0 && l[k].Cmp(l[k-1]) > 0 || n > 0 && l[k].Cmp(before[k]) < 0 {
					t.Fatalf("Spares(%v, %d, %d) = %s", lives, n, k, r)
				}
			}
			if sumOf(l[1:n+1]).Cmp(sumOf(numbers(renewed[1:n+1]))) != 0 {
				t.Fatalf("Spares(%v, %d, ..) = %v", lives, n, texts(l))
			}
			before = l
		}
	}
}

// growing yields lives whose hazards never fall: weights that never fall have such.
func growing(yield func([]api.Num) bool) {
	random := rand.New(rand.NewSource(7))
	for i := range 120 {
		lives := randomLives(random, 1+i%api.MaxAge, i%3)
		slices.SortFunc(lives, func(a, b api.Num) int { return rational(a).Cmp(rational(b)) })
		if !yield(lives) {
			return
		}
	}
	for lives := range wheels {
		l, _ := wear.Hazards(lives)
		if slices.IsSortedFunc(numbers(l), (*big.Rat).Cmp) && !yield(lives) {
			return
		}
	}
}

// E5: the rates fall, and then rise.
func TestE5Planned(t *testing.T) {
	inner := 0
	for lives := range growing {
		hazards, _ := wear.Hazards(lives)
		if !slices.IsSortedFunc(numbers(hazards), (*big.Rat).Cmp) {
			t.Fatalf("Hazards(%v) = %v", lives, hazards)
		}
		for _, c := range costs() {
			nums, e := wear.Rates(lives, c[0], c[1])
			l := numbers(nums)
			if e != api.OK || len(l) != len(lives) {
				t.Fatalf("Rates(%v, %v) = %v, %d", lives, c, nums, e)
			}
			for i := 1; i < len(l)-1; i++ {
				if l[i].Cmp(l[i-1]) > 0 && l[i].Cmp(l[i+1]) > 0 {
					t.Fatalf("Rates(%v, %v) = %v", lives, c, nums)
				}
			}
			if age, _, _ := wear.Replace(lives, c[0], c[1]); age > 1 && age < len(lives) {
				inner++
			}
		}
	}
	if inner < 20 {
		t.Errorf("only %d rates fall and rise", inner)
	}
}

// E6: both costs multiplied by a number multiply the rates.
func TestE6Units(t *testing.T) {
	for lives := range wheels {
		for _, c := range [][2]api.Num{{"1", "4"}, {"3/7", "5/2"}, {"400", "3"}} {
			nums, _ := wear.Rates(lives, c[0], c[1])
			age, rate, _ := wear.Replace(lives, c[0], c[1])
			for _, factor := range []*big.Rat{big.NewRat(7, 1), big.NewRat(1, 1000), big.NewRat(14, 15), big.NewRat(1, 1)} {
				scaled := func(num api.Num) api.Num { return text(new(big.Rat).Mul(rational(num), factor)) }
				more, e := wear.Rates(lives, scaled(c[0]), scaled(c[1]))
				var want []api.Num
				for _, num := range nums {
					want = append(want, scaled(num))
				}
				if e != api.OK || !slices.Equal(more, want) {
					t.Fatalf("Rates(%v, %v times %s) = %v, %d; want %v", lives, c, factor, more, e, want)
				}
				if a, r, e := wear.Replace(lives, scaled(c[0]), scaled(c[1])); e != api.OK || a != age || r != scaled(rate) {
					t.Fatalf("Replace(%v, %v times %s) = %d, %s, %d; want %d, %s", lives, c, factor, a, r, e, age, scaled(rate))
				}
			}
		}
	}
}

// E7: renewals of numbers that are no multiple of the span are 0.
func TestE7Span(t *testing.T) {
	zeros := 0
	for lives := range wheels {
		_, span, e := wear.Mean(lives)
		renewed, e2 := wear.Renew(lives, api.MaxTimes)
		if e != api.OK || e2 != api.OK {
			t.Fatalf("%v: %d, %d", lives, e, e2)
		}
		for k, u := range renewed {
			if k%span != 0 {
				zeros++
				if u != "0" {
					t.Fatalf("Renew(%v)[%d] = %s, with the span %d", lives, k, u, span)
				}
			}
		}
	}
	if zeros < 100 {
		t.Errorf("only %d zeros", zeros)
	}
}
