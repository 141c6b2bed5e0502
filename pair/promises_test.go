package pair_test

import (
	"math/rand"
	"slices"
	"testing"

	"bolster/api"
	"bolster/pair"
)

// M1: no pairing has a lower greatest cost than that of Worst.
func TestM1Worst(t *testing.T) {
	for m := range matrices {
		p, cost, e := pair.Worst(m)
		if e != api.OK || slices.Max(m.of(p)) != cost {
			t.Fatalf("Worst(%v) = %v, %d, %d", m, p, cost, e)
		}
		blades, e := pair.Lacks(m, cost-1)
		if e != api.OK || m.handles(cost-1, blades) >= len(blades) {
			t.Fatalf("Lacks(%v, %d) = %v, %d", m, cost-1, blades, e)
		}
	}
}

// M2: a set of blades lacks a handle, or there is a pairing.
func TestM2Hall(t *testing.T) {
	found := map[bool]int{}
	for m := range matrices {
		for _, limit := range m.limits() {
			count, e := pair.Count(m, limit)
			blades, lacksE := pair.Lacks(m, limit)
			if e != api.OK || (lacksE == api.ErrNone) != (count > 0) || (lacksE == api.OK) != (count == 0) {
				t.Fatalf("%v, %d: %d pairings; Lacks = %v, %d", m, limit, count, blades, lacksE)
			}
			found[count > 0]++
		}
	}
	if found[true] < 500 || found[false] < 500 {
		t.Errorf("with and without a pairing: %v", found)
	}
}

// M3: the greatest cost of Smooth is that of Worst; for powers of 2 a greater one is
// more than all lesser ones together, so that the sum tells the same.
func TestM3Smooth(t *testing.T) {
	for m := range matrices {
		p, e := pair.Smooth(m)
		_, cost, e2 := pair.Worst(m)
		if e != api.OK || e2 != api.OK || slices.Max(m.of(p)) != cost {
			t.Fatalf("Smooth(%v) = %v, %d; the worst is %d", m, p, e, cost)
		}
	}
	source := rand.New(rand.NewSource(3))
	for i := range 3000 {
		powers := source.Perm(10)
		m := newMatrix(1+i%3, func(row, column int) int { return 1 << powers[3*row+column] })
		smooth, _ := pair.Smooth(m)
		cheapest, _, _ := pair.Cheapest(m)
		if len(smooth) != len(m) || !slices.Equal(smooth, cheapest) {
			t.Fatalf("%v: Smooth = %v, Cheapest = %v", m, smooth, cheapest)
		}
	}
}

// M4: the prices prove the least sum, and nothing proves more.
func TestM4Egervary(t *testing.T) {
	source := rand.New(rand.NewSource(4))
	for m := range matrices {
		_, least, _ := pair.Cheapest(m)
		rows, columns, e := pair.Prices(m)
		if e != api.OK {
			t.Fatalf("Prices(%v): %d", m, e)
		}
		if ok, e := pair.Proves(m, rows, columns, least); !ok || e != api.OK {
			t.Fatalf("Proves(%v, %v, %v, %d) = %t, %d", m, rows, columns, least, ok, e)
		}
		if ok, _ := pair.Proves(m, rows, columns, least+1); ok {
			t.Fatalf("Proves(%v, %v, %v, %d)", m, rows, columns, least+1)
		}
		for range 10 {
			// One price more, and perhaps another one less: of no matter which.
			more, less := slices.Clone(rows), slices.Clone(columns)
			more[source.Intn(len(m))] += 1 + source.Intn(2)
			less[source.Intn(len(m))] -= source.Intn(2)
			if ok, _ := pair.Proves(m, more, less, least+1); ok {
				t.Fatalf("Proves(%v, %v, %v, %d)", m, more, less, least+1)
			}
		}
	}
}

// M5: the covering covers, with as few rows and columns as there are pairs. Fewer do
// not cover so many pairs without a blade or a handle in common.
func TestM5Konig(t *testing.T) {
	for m := range matrices {
		for _, limit := range m.limits() {
			n, rows, columns, e := pair.Most(m, limit)
			if e != api.OK || len(rows)+len(columns) != n || !m.covers(limit, rows, columns) {
				t.Fatalf("Most(%v, %d) = %d, %v, %v, %d", m, limit, n, rows, columns, e)
			}
			if count, _ := pair.Count(m, limit); (n == len(m)) != (count > 0) {
				t.Fatalf("Most(%v, %d) = %d, and there are %d pairings", m, limit, n, count)
			}
		}
	}
}

// M6: At and Rank are inverse.
func TestM6Ranks(t *testing.T) {
	for m := range matrices {
		for _, limit := range m.limits() {
			count, _ := pair.Count(m, limit)
			var before []int
			for rank := 0; rank < count; rank += 1 + count/50 {
				p, e := pair.At(m, limit, rank)
				if e != api.OK || slices.Max(m.of(p)) > limit || slices.Compare(before, p) >= 0 {
					t.Fatalf("At(%v, %d, %d) = %v, %d; before it %v", m, limit, rank, p, e, before)
				}
				if r, e := pair.Rank(m, limit, p); e != api.OK || r != rank {
					t.Fatalf("Rank(%v, %d, %v) = %d, %d; want %d", m, limit, p, r, e, rank)
				}
				before = p
			}
		}
	}
}

// M7: a number more in a row is a number more in the sum, and rows may be exchanged.
func TestM7Moved(t *testing.T) {
	source := rand.New(rand.NewSource(7))
	for m := range matrices {
		p, sum, _ := pair.Cheapest(m)
		_, cost, _ := pair.Worst(m)
		row, other := source.Intn(len(m)), source.Intn(len(m))
		for _, number := range []int{1, -slices.Min(m[row]), api.MaxGain - slices.Max(m[row])} {
			more := newMatrix(len(m), func(i, j int) int {
				if i == row {
					return m[i][j] + number
				}
				return m[i][j]
			})
			if q, s, e := pair.Cheapest(more); slices.Max(more[row]) <= api.MaxGain && (e != api.OK || s != sum+number || !slices.Equal(q, p)) {
				t.Fatalf("Cheapest(%v) = %v, %d, %d; without %d in row %d %v, %d", more, q, s, e, number, row, p, sum)
			}
		}
		exchanged := slices.Clone(m)
		exchanged[row], exchanged[other] = exchanged[other], exchanged[row]
		if _, c, e := pair.Worst(exchanged); e != api.OK || c != cost {
			t.Fatalf("Worst(%v) = .., %d, %d; before the exchange %d", exchanged, c, e, cost)
		}
	}
}
