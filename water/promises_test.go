package water_test

import (
	"slices"
	"testing"

	"bolster/api"
	"bolster/water"
)

func TestW1Best(t *testing.T) {
	for r := range small {
		best, worth, e := water.Best(r.flow, r.gains)
		if w, f := water.Worth(r.flow, r.gains, best); e != api.OK || f != api.OK || w != worth {
			t.Fatalf("Best(%v) = %v, %d, %d; worth %d, %d", r, best, worth, e, w, f)
		}
		// Also the uses of more pieces than there are gains.
		most := make([]int, len(r.flow))
		for i := range most {
			most[i] = min(len(r.gains[i])+1, sum(r.flow[:i+1]))
		}
		for use := range uses(most) {
			if w, e := water.Worth(r.flow, r.gains, use); e == api.OK && w > worth {
				t.Fatalf("Best(%v) = %v, %d; %v is worth %d", r, best, worth, use, w)
			}
		}
	}
}

// alone and aspires return what a group is worth alone and aspires to.
func alone(t *testing.T, r stream, group []int) int {
	t.Helper()
	w, e := water.Alone(r.flow, r.gains, group)
	if e != api.OK {
		t.Fatalf("Alone(%v, %v): %d", r, group, e)
	}
	return w
}

func aspires(t *testing.T, r stream, group []int) int {
	t.Helper()
	w, e := water.Aspires(r.flow, r.gains, group)
	if e != api.OK {
		t.Fatalf("Aspires(%v, %v): %d", r, group, e)
	}
	return w
}

// The numbers are the only ones, because what the places down to any one are
// worth alone is also what they aspire to.
func TestW2Shares(t *testing.T) {
	check := func(r stream) {
		shares, e := water.Shares(r.flow, r.gains)
		_, worth, f := water.Best(r.flow, r.gains)
		if e != api.OK || f != api.OK || sum(shares) != worth {
			t.Fatalf("Shares(%v) = %v, %d; Best %d, %d", r, shares, e, worth, f)
		}
		for _, group := range groups(len(r.flow)) {
			got := 0
			for _, i := range group {
				got += shares[i]
			}
			least, most := alone(t, r, group), aspires(t, r, group)
			beginning := len(group) == 0 || group[len(group)-1] == len(group)-1
			if got < least || got > most || beginning && least != most {
				t.Fatalf("Shares(%v) = %v: %v gets %d, of %d to %d", r, shares, group, got, least, most)
			}
		}
	}
	for r := range small {
		check(r)
	}
	seen := 0
	for r := range large {
		if seen++; seen <= 40 {
			check(r)
		}
	}
}

func TestW3Prices(t *testing.T) {
	check := func(r stream) {
		use, _, e := water.Best(r.flow, r.gains)
		prices, f := water.Prices(r.flow, r.gains)
		if e != api.OK || f != api.OK || len(prices) != len(r.flow) {
			t.Fatalf("Prices(%v) = %v, %d; Best %d", r, prices, f, e)
		}
		for i, price := range prices {
			if i > 0 && price > prices[i-1] {
				t.Fatalf("Prices(%v) = %v: risen at %d", r, prices, i)
			}
			if use[i] > 0 && r.gains[i][use[i]-1] < price {
				t.Fatalf("Prices(%v) = %v: %d uses %d", r, prices, i, use[i])
			}
			if use[i] < len(r.gains[i]) && r.gains[i][use[i]] > price {
				t.Fatalf("Prices(%v) = %v: %d uses only %d", r, prices, i, use[i])
			}
		}
	}
	for r := range small {
		check(r)
	}
	for r := range large {
		check(r)
	}
}

func TestW4Calls(t *testing.T) {
	for c := range claims {
		use, e := water.Calls(c.flow, c.rights, c.ages)
		if e != api.OK || !possible(c.flow, use) {
			t.Fatalf("Calls(%v) = %v, %d", c, use, e)
		}
		for place, age := range c.ages {
			checkYounger(t, c, use, age)
			more := slices.Clone(c.flow)
			if more[place] == api.MaxFlow {
				continue
			}
			more[place]++
			oldest := slices.Index(c.ages, 0)
			if l, e := water.Calls(more, c.rights, c.ages); e != api.OK || l[oldest] < use[oldest] {
				t.Fatalf("Calls(%v) = %v; with one more piece at %d: %v, %d", c, use, place, l, e)
			}
		}
	}
}

// checkYounger changes the rights and the order of those that are younger than an
// age, for which nothing must change.
func checkYounger(t *testing.T, c rights, use []int, age int) {
	t.Helper()
	n := len(c.flow)
	changed := rights{c.flow, slices.Clone(c.rights), slices.Clone(c.ages)}
	for i, a := range c.ages {
		if a > age {
			changed.rights[i] = api.MaxFlow - c.rights[i]
			changed.ages[i] = age + n - a
		}
	}
	l, e := water.Calls(changed.flow, changed.rights, changed.ages)
	for i, a := range c.ages {
		if e != api.OK || a <= age && l[i] != use[i] {
			t.Fatalf("Calls(%v) = %v; %v: %v, %d", c, use, changed, l, e)
		}
	}
}

func TestW5Together(t *testing.T) {
	for r := range small {
		all := groups(len(r.flow))
		for mask, group := range all {
			for otherMask, other := range all {
				if mask&otherMask > 0 {
					continue
				}
				together := slices.Concat(group, other)
				slices.Sort(together)
				if w, v, u := alone(t, r, together), alone(t, r, group), alone(t, r, other); w < v+u {
					t.Fatalf("%v: %v and %v: %d alone, and %d and %d", r, group, other, w, v, u)
				}
			}
		}
	}
}
