package teeth_test

import (
	"math/big"
	"slices"
	"testing"

	"bolster/api"
	"bolster/teeth"
)

func TestN1Best(t *testing.T) {
	for over, under := range fractions {
		terms, _ := teeth.Terms(over, under)
		for i := range terms {
			if i == 0 && len(terms) > 1 && terms[1] == 1 {
				continue
			}
			want := valueOf(terms[:i+1])
			p, q, e := teeth.Near(over, under, int(want.Denom().Int64()))
			if e != api.OK || q != int(want.Denom().Int64()) || p != int(want.Num().Int64()) {
				t.Fatalf("Near(%d, %d, %s) = %d, %d, %d; want %s", over, under, want.Denom(), p, q, e, want)
			}
		}
		if over <= 40 && under <= 40 {
			noneIsCloser(t, over, under)
		}
	}
}

// noneIsCloser tries all small fractions.
func noneIsCloser(t *testing.T, over, under int) {
	t.Helper()
	x := rat(over, under)
	for _, most := range []int{1, 4, 7} {
		p, q, e := teeth.Near(over, under, most)
		if e != api.OK || q < 1 || q > most || p < 0 {
			t.Fatalf("Near(%d, %d, %d) = %d, %d, %d", over, under, most, p, q, e)
		}
		off := distance(x, rat(p, q))
		for v := 1; v <= most; v++ {
			for u := max(0, over*v/under-2); u <= over*v/under+2; u++ {
				if distance(x, rat(u, v)).Cmp(off) < 0 {
					t.Fatalf("Near(%d, %d, %d) = %d, %d; closer is %d/%d", over, under, most, p, q, u, v)
				}
			}
		}
	}
}

func TestN2Neighbours(t *testing.T) {
	seen := 0
	hold := func(a, b, c, d int) {
		if c*b-a*d != 1 {
			t.Fatalf("%d/%d and %d/%d are no neighbours", a, b, c, d)
		}
		seen++
		if p, q, e := teeth.Between(a, b, c, d); p != a+c || q != b+d || e != api.OK {
			t.Fatalf("Between(%d, %d, %d, %d) = %d, %d, %d", a, b, c, d, p, q, e)
		}
	}
	for a := 1; a <= 60; a++ {
		for b := 1; b <= 60; b++ {
			for d := 1; d <= 60; d++ {
				if (a*d+1)%b == 0 {
					hold(a, b, (a*d+1)/b, d)
				}
			}
		}
	}
	for over, under := range greatFractions {
		terms, _ := teeth.Terms(over, under)
		for i := 1; i < len(terms); i++ {
			low, high := valueOf(terms[:i]), valueOf(terms[:i+1])
			if low.Cmp(high) > 0 {
				low, high = high, low
			}
			if low.Sign() > 0 {
				hold(int(low.Num().Int64()), int(low.Denom().Int64()), int(high.Num().Int64()), int(high.Denom().Int64()))
			}
		}
	}
	if seen < 5000 {
		t.Errorf("%d neighbours were seen", seen)
	}
}

func TestN3Lagrange(t *testing.T) {
	for d := range roots {
		first, period, e := teeth.Root(d)
		if e != api.OK || len(period) == 0 || period[len(period)-1] != 2*first {
			t.Fatalf("Root(%d) = %d, %v, %d", d, first, period, e)
		}
		back := slices.Clone(period[:len(period)-1])
		slices.Reverse(back)
		if !slices.Equal(back, period[:len(back)]) {
			t.Fatalf("Root(%d) = %d, %v", d, first, period)
		}
	}
}

func TestN4Pell(t *testing.T) {
	for d := range roots {
		_, period, _ := teeth.Root(d)
		x, y, e := teeth.Pell(d, 1)
		u, v, f := teeth.Pell(d, -1)
		if e != api.OK || (f == api.OK) != (len(period)%2 == 1) {
			t.Fatalf("Pell(%d): %d and %d, and the period has %d terms", d, e, f, len(period))
		}
		if f != api.OK {
			continue
		}
		// The square of u + v√d is u·u + d·v·v + 2·u·v√d.
		a, b := number(t, u), number(t, v)
		square := new(big.Int).Mul(b, b)
		square.Mul(square, big.NewInt(int64(d))).Add(square, new(big.Int).Mul(a, a))
		twice := new(big.Int).Mul(a, b)
		if square.Cmp(number(t, x)) != 0 || twice.Lsh(twice, 1).Cmp(number(t, y)) != 0 {
			t.Fatalf("Pell(%d): %s, %s and %s, %s", d, x, y, u, v)
		}
	}
}

func TestN5Ostrowski(t *testing.T) {
	long := [][]int{ones(20), {0, 1, 1, 2, 1, 1, 4, 1, 1, 6, 1, 1, 8}, {3, 7, 15, 1, 292, 1, 1}, {0, 2997, 333667}, {0, api.MaxOver, 900}, {0, 1, api.MaxOver}}
	for _, terms := range slices.Concat(numerations, long) {
		count := underOf(terms, len(terms)-1)
		var before []int // backwards
		for n := 0; n < count; n += 1 + count/5000 {
			digits, e := teeth.Digits(terms, n)
			if again, f := teeth.Number(terms, digits); e != api.OK || again != n || f != api.OK {
				t.Fatalf("Digits(%v, %d) = %v, %d; Number: %d, %d", terms, n, digits, e, again, f)
			}
			slices.Reverse(digits)
			if slices.Compare(before, digits) >= 0 {
				t.Fatalf("Digits(%v, %d), backwards, are %v after %v", terms, n, digits, before)
			}
			before = digits
		}
	}
}

func TestN6Rayleigh(t *testing.T) {
	for d := range roots {
		s, e := teeth.Beats(d, 400)
		a, b := beatsOf(d, 400)
		sums := []int{0} // of letters b before a place
		for i := range len(s) {
			if e != api.OK || a[i+1] == b[i+1] || a[i+1] != (s[i] == 'a') {
				t.Fatalf("Beats(%d, 400) = %s, %d: %d", d, s, e, i+1)
			}
			next := sums[i]
			if s[i] == 'b' {
				next++
			}
			sums = append(sums, next)
		}
		for length := 1; length <= len(s); length++ {
			least, most := length, 0
			for i := range len(s) - length + 1 {
				least, most = min(least, sums[i+length]-sums[i]), max(most, sums[i+length]-sums[i])
			}
			if most-least > 1 {
				t.Fatalf("Beats(%d, 400) = %s: parts of %d have %d to %d letters b", d, s, length, least, most)
			}
		}
	}
}

func TestN7Markov(t *testing.T) {
	const most = 1_000_000_000
	all, e := teeth.Markov(most)
	if e != api.OK || len(all) == 0 {
		t.Fatalf("Markov: %v, %d", all, e)
	}
	greatest := map[int]bool{}
	for j, y := range all {
		for _, x := range all[:j+1] {
			for _, z := range thirdOf(x, y) {
				if z > most {
					continue
				}
				if !isTriple(x, y, z) {
					t.Fatalf("%d, %d, %d is no triple", x, y, z)
				}
				greatest[z] = true
				goesBack(t, x, y, z)
			}
		}
	}
	for _, z := range all {
		if !greatest[z] {
			t.Errorf("%d is not the greatest number of a triple", z)
		}
	}
}

// goesBack replaces the greatest number of a triple until it is 1, 1, 1.
func goesBack(t *testing.T, x, y, z int) {
	t.Helper()
	for z > 1 {
		next := []int{x, y, 3*x*y - z}
		slices.Sort(next)
		if !isTriple(next[0], next[1], next[2]) || next[2] >= z {
			t.Fatalf("%d, %d, %d becomes %v", x, y, z, next)
		}
		x, y, z = next[0], next[1], next[2]
	}
}
