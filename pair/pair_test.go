package pair_test

import (
	"math"
	"math/rand"
	"slices"
	"strconv"
	"strings"
	"testing"

	"bolster/api"
	"bolster/pair"
)

func TestExamples(t *testing.T) {
	m := matrix{{1, 2}, {3, 5}}
	if p, cost, e := pair.Worst(m); e != api.OK || cost != 3 || !slices.Equal(p, []int{1, 0}) {
		t.Errorf("Worst = %v, %d, %d", p, cost, e)
	}
	if p, e := pair.Smooth(m); e != api.OK || !slices.Equal(p, []int{1, 0}) {
		t.Errorf("Smooth = %v, %d", p, e)
	}
	if p, sum, e := pair.Cheapest(m); e != api.OK || sum != 5 || !slices.Equal(p, []int{1, 0}) {
		t.Errorf("Cheapest = %v, %d, %d", p, sum, e)
	}
	if p, d, e := pair.Even(m); e != api.OK || d != 1 || !slices.Equal(p, []int{1, 0}) {
		t.Errorf("Even = %v, %d, %d", p, d, e)
	}
	m = matrix{{1, 9}, {1, 9}}
	if l, e := pair.Lacks(m, 5); e != api.OK || !slices.Equal(l, []int{0, 1}) {
		t.Errorf("Lacks = %v, %d", l, e)
	}
	if n, rows, columns, e := pair.Most(m, 5); e != api.OK || n != 1 || len(rows) != 0 || !slices.Equal(columns, []int{0}) {
		t.Errorf("Most = %d, %v, %v, %d", n, rows, columns, e)
	}
	if n, e := pair.Count(m, 5); e != api.OK || n != 0 {
		t.Errorf("Count = %d, %d", n, e)
	}
	m = matrix{{0, 0}, {0, 0}}
	if n, e := pair.Count(m, 0); e != api.OK || n != 2 {
		t.Errorf("Count = %d, %d", n, e)
	}
	if p, e := pair.At(m, 0, 1); e != api.OK || !slices.Equal(p, []int{1, 0}) {
		t.Errorf("At = %v, %d", p, e)
	}
}

func TestLeast(t *testing.T) {
	for m := range matrices {
		want, least := m.least(greatest)
		if p, cost, e := pair.Worst(m); e != api.OK || cost != least[0] || !slices.Equal(p, want) {
			t.Fatalf("Worst(%v) = %v, %d, %d; want %v, %d", m, p, cost, e, want, least)
		}
		want, _ = m.least(fallingOrder)
		if p, e := pair.Smooth(m); e != api.OK || !slices.Equal(p, want) {
			t.Fatalf("Smooth(%v) = %v, %d; want %v", m, p, e, want)
		}
		want, least = m.least(sum)
		if p, cost, e := pair.Cheapest(m); e != api.OK || cost != least[0] || !slices.Equal(p, want) {
			t.Fatalf("Cheapest(%v) = %v, %d, %d; want %v, %d", m, p, cost, e, want, least)
		}
		want, least = m.least(difference)
		if p, d, e := pair.Even(m); e != api.OK || d != least[0] || !slices.Equal(p, want) {
			t.Fatalf("Even(%v) = %v, %d, %d; want %v, %d", m, p, d, e, want, least)
		}
	}
}

// Costs for which the four measures choose different pairings.
func TestMeasures(t *testing.T) {
	m := matrix{{8, 1, 4}, {8, 8, 8}, {7, 6, 9}}
	if p, cost, _ := pair.Worst(m); !slices.Equal(p, []int{0, 2, 1}) || cost != 8 {
		t.Errorf("Worst = %v, %d", p, cost)
	}
	if p, _ := pair.Smooth(m); !slices.Equal(p, []int{2, 0, 1}) {
		t.Errorf("Smooth = %v", p)
	}
	if p, sum, _ := pair.Cheapest(m); !slices.Equal(p, []int{1, 2, 0}) || sum != 16 {
		t.Errorf("Cheapest = %v, %d", p, sum)
	}
	if p, d, _ := pair.Even(m); !slices.Equal(p, []int{0, 1, 2}) || d != 1 {
		t.Errorf("Even = %v, %d", p, d)
	}
}

func TestLacks(t *testing.T) {
	for m := range matrices {
		for _, limit := range m.limits() {
			want, wantE := m.lacks(limit)
			if l, e := pair.Lacks(m, limit); e != wantE || !slices.Equal(l, want) {
				t.Fatalf("Lacks(%v, %d) = %v, %d; want %v, %d", m, limit, l, e, want, wantE)
			}
		}
	}
}

// The fewest blades come first, and then the lexicographically least ones.
func TestLacksFirst(t *testing.T) {
	for _, c := range []struct {
		handles []string // of each blade
		want    []int
	}{
		{[]string{"01", "01", "01", "2", "2", "2"}, []int{3, 4}},
		{[]string{"1", "0", "0", "1"}, []int{0, 3}},
		{[]string{"0123", "1", "0", "0", "1"}, []int{1, 4}},
		{[]string{"345", "01", "01", "34", "34", "01"}, []int{1, 2, 5}},
		{[]string{"34", "01", "01", "01", "34", "34"}, []int{0, 4, 5}},
		{[]string{"01", "0", "", "0", ""}, []int{2}},
		{[]string{"01", "012", "02", "12"}, []int{0, 1, 2, 3}},
	} {
		m := newMatrix(len(c.handles), func(i, j int) int {
			if strings.Contains(c.handles[i], strconv.Itoa(j)) {
				return 1
			}
			return 2
		})
		if l, e := pair.Lacks(m, 1); e != api.OK || !slices.Equal(l, c.want) {
			t.Errorf("Lacks of %q = %v, %d; want %v", c.handles, l, e, c.want)
		}
	}
}

func TestMost(t *testing.T) {
	for m := range matrices {
		for _, limit := range m.limits() {
			want := m.most(limit, 0, nil)
			n, rows, columns, e := pair.Most(m, limit)
			if e != api.OK || n != want {
				t.Fatalf("Most(%v, %d) = %d, %d; want %d", m, limit, n, e, want)
			}
			if len(rows)+len(columns) != n || !isRising(rows, len(m)) || !isRising(columns, len(m)) || !m.covers(limit, rows, columns) {
				t.Fatalf("Most(%v, %d) = %d, %v, %v", m, limit, n, rows, columns)
			}
		}
	}
}

// ranks returns the ranks to try where there are some pairings: all if they are few.
func ranks(count int) []int {
	l := []int{math.MinInt, -count, -1, count, count + 1, math.MaxInt}
	for rank := 0; rank < count; rank += 1 + count/500 {
		l = append(l, rank)
	}
	return append(l, max(0, count-1))
}

func TestRanks(t *testing.T) {
	for m := range matrices {
		limits := m.limits()
		for i, limit := range limits {
			if len(m) > 6 && i%3 > 0 && i < len(limits)-1 {
				continue
			}
			all := m.allowed(limit)
			if n, e := pair.Count(m, limit); e != api.OK || n != len(all) {
				t.Fatalf("Count(%v, %d) = %d, %d; want %d", m, limit, n, e, len(all))
			}
			for _, rank := range ranks(len(all)) {
				if rank < 0 || rank >= len(all) {
					if p, e := pair.At(m, limit, rank); e != api.ErrNone || len(p) > 0 {
						t.Fatalf("At(%v, %d, %d) = %v, %d", m, limit, rank, p, e)
					}
					continue
				}
				if p, e := pair.At(m, limit, rank); e != api.OK || !slices.Equal(p, all[rank]) {
					t.Fatalf("At(%v, %d, %d) = %v, %d; want %v", m, limit, rank, p, e, all[rank])
				}
				if r, e := pair.Rank(m, limit, all[rank]); e != api.OK || r != rank {
					t.Fatalf("Rank(%v, %d, %v) = %d, %d; want %d", m, limit, all[rank], r, e, rank)
				}
			}
		}
	}
}

// A pairing has no rank if one of its pairs, wherever it is, is not allowed.
func TestRankNone(t *testing.T) {
	for m := range matrices {
		if len(m) > 5 {
			continue
		}
		for _, limit := range m.limits() {
			for p := range pairings(len(m)) {
				if slices.Max(m.of(p)) <= limit {
					continue
				}
				if r, e := pair.Rank(m, limit, p); e != api.ErrNone || r != 0 {
					t.Fatalf("Rank(%v, %d, %v) = %d, %d", m, limit, p, r, e)
				}
			}
		}
	}
}

func TestPrices(t *testing.T) {
	for m := range matrices {
		_, want := m.least(sum)
		rows, columns, e := pair.Prices(m)
		if e != api.OK || !m.fits(rows, columns) || sum(slices.Concat(rows, columns))[0] != want[0] {
			t.Fatalf("Prices(%v) = %v, %v, %d; want the sum %d", m, rows, columns, e, want[0])
		}
	}
}

func TestProves(t *testing.T) {
	source := rand.New(rand.NewSource(2))
	proofs := 0
	for m := range matrices {
		for i := range 20 {
			rows, columns := numbers(source, m, i%4), numbers(source, m, (i+1)%4)
			total := sum(slices.Concat(rows, columns))[0]
			for _, least := range []int{math.MinInt, total - 1, total, total + 1, math.MaxInt} {
				want := m.fits(rows, columns) && total >= least
				if ok, e := pair.Proves(m, rows, columns, least); e != api.OK || ok != want {
					t.Fatalf("Proves(%v, %v, %v, %d) = %t, %d", m, rows, columns, least, ok, e)
				}
				if want {
					proofs++
				}
			}
		}
	}
	if proofs < 5000 {
		t.Errorf("only %d proofs", proofs)
	}
}

// numbers returns random numbers, of different kinds, for the rows of a matrix, such
// that the kinds 1 and 2 together often just fit.
func numbers(source *rand.Rand, m matrix, kind int) []int {
	var l []int
	for _, row := range m {
		switch kind {
		case 0:
			l = append(l, source.Intn(20)-15)
		case 1:
			l = append(l, slices.Min(row))
		case 2:
			l = append(l, 0)
		default:
			l = append(l, source.Intn(2*most+1)-most)
		}
	}
	return l
}

// most is the greatest number of a row or column.
const most = 1000000000

// Numbers up to the limits are taken, and their sums do not overflow.
func TestProvesLimits(t *testing.T) {
	for _, n := range []int{1, 2, api.MaxBlades} {
		m := newMatrix(n, func(int, int) int { return 0 })
		low, high := slices.Repeat([]int{-most}, n), slices.Repeat([]int{most}, n)
		for _, c := range []struct {
			rows, columns []int
			sum           int
			want          bool
		}{
			{low, high, 0, true}, {high, low, 0, true}, {low, high, 1, false}, {high, high, 0, false}, {high, high, math.MinInt, false},
			{low, low, -2 * n * most, true}, {low, low, -2*n*most + 1, false}, {low, low, math.MinInt, true}, {low, high, math.MaxInt, false},
		} {
			if ok, e := pair.Proves(m, c.rows, c.columns, c.sum); e != api.OK || ok != c.want {
				t.Errorf("Proves(%d rows, %v, %v, %d) = %t, %d", n, c.rows, c.columns, c.sum, ok, e)
			}
		}
	}
}

func TestProvesMalformed(t *testing.T) {
	m, good := matrix{{1, 2}, {3, 5}}, []int{0, 0}
	for _, l := range [][]int{nil, {}, {0}, {0, 0, 0}, {most + 1, 0}, {0, most + 1}, {-most - 1, 0}, {0, -most - 1}, {0, math.MinInt}, {math.MaxInt, 0}} {
		if ok, e := pair.Proves(m, l, good, -5); ok || e != api.ErrForm {
			t.Errorf("Proves(.., %v, %v) = %t, %d", l, good, ok, e)
		}
		if ok, e := pair.Proves(m, good, l, -5); ok || e != api.ErrForm {
			t.Errorf("Proves(.., %v, %v) = %t, %d", good, l, ok, e)
		}
	}
	if ok, e := pair.Proves(matrix{{1}}, nil, []int{0, 0}, 0); ok || e != api.ErrForm {
		t.Errorf("no row and two columns: %t, %d", ok, e)
	}
}

// calls are the functions of costs; each one reports whether its result is the zero
// value. Bad arguments besides are named after the costs, so that ErrArg is first.
func calls() map[string]func(costs [][]int) (bool, api.Errno) {
	return map[string]func([][]int) (bool, api.Errno){
		"Worst":    func(c [][]int) (bool, api.Errno) { p, n, e := pair.Worst(c); return len(p) == 0 && n == 0, e },
		"Lacks":    func(c [][]int) (bool, api.Errno) { l, e := pair.Lacks(c, -1); return len(l) == 0, e },
		"Smooth":   func(c [][]int) (bool, api.Errno) { p, e := pair.Smooth(c); return len(p) == 0, e },
		"Cheapest": func(c [][]int) (bool, api.Errno) { p, n, e := pair.Cheapest(c); return len(p) == 0 && n == 0, e },
		"Prices":   func(c [][]int) (bool, api.Errno) { a, b, e := pair.Prices(c); return len(a)+len(b) == 0, e },
		"Proves": func(c [][]int) (bool, api.Errno) {
			l := make([]int, len(c))
			ok, e := pair.Proves(c, l, l, math.MinInt)
			return !ok, e
		},
		"Proves, badly": func(c [][]int) (bool, api.Errno) { ok, e := pair.Proves(c, []int{most + 1}, nil, 0); return !ok, e },
		"Even":          func(c [][]int) (bool, api.Errno) { p, n, e := pair.Even(c); return len(p) == 0 && n == 0, e },
		"Most": func(c [][]int) (bool, api.Errno) {
			n, a, b, e := pair.Most(c, math.MaxInt)
			return n == 0 && len(a)+len(b) == 0, e
		},
		"Count":       func(c [][]int) (bool, api.Errno) { n, e := pair.Count(c, math.MaxInt); return n == 0, e },
		"At":          func(c [][]int) (bool, api.Errno) { p, e := pair.At(c, math.MaxInt, 0); return len(p) == 0, e },
		"At, badly":   func(c [][]int) (bool, api.Errno) { p, e := pair.At(c, math.MaxInt, -1); return len(p) == 0, e },
		"Rank":        func(c [][]int) (bool, api.Errno) { n, e := pair.Rank(c, math.MaxInt, []int{1, 0}); return n == 0, e },
		"Rank, badly": func(c [][]int) (bool, api.Errno) { n, e := pair.Rank(c, math.MinInt, []int{7, 7}); return n == 0, e },
	}
}

func TestRefused(t *testing.T) {
	refused := [][][]int{nil, {}, {{}}, {nil}, {{1, 2}}, {{1}, {2}}, {{1, 2}, {3}}, {{1}, {2, 3}}, {{1, 2}, {3, 4, 5}}, {{1, 2}, nil}, {{1, 2}, {3, 4}, {5, 6}},
		newMatrix(api.MaxBlades+1, func(int, int) int { return 1 }), make([][]int, api.MaxBlades+1)}
	for _, cost := range []int{-1, api.MaxGain + 1, math.MinInt, math.MaxInt} {
		refused = append(refused, [][]int{{cost}}, [][]int{{cost, 1}, {1, 1}}, [][]int{{1, 1}, {1, cost}})
	}
	for name, call := range calls() {
		for _, costs := range refused {
			if zero, e := call(costs); e != api.ErrArg || !zero {
				t.Errorf("%s(%v): %d, zero %t", name, costs, e, zero)
			}
		}
	}
}

func TestRankMalformed(t *testing.T) {
	m := matrix{{1, 2}, {3, 5}}
	for _, limit := range []int{math.MinInt, 2, math.MaxInt} {
		for _, p := range [][]int{nil, {}, {0}, {0, 0}, {1, 1}, {0, 2}, {2, 0}, {-1, 0}, {0, -1}, {0, 1, 2}, {0, 1, 0}, {math.MaxInt, 0}, {math.MinInt, 0}, {64, 1}} {
			if r, e := pair.Rank(m, limit, p); e != api.ErrForm || r != 0 {
				t.Errorf("Rank(.., %d, %v) = %d, %d", limit, p, r, e)
			}
		}
	}
}

func TestMemory(t *testing.T) {
	m := matrix{{1, 2, 2}, {3, 5, 2}, {2, 1, 4}}
	numbers := []int{1, 0, 2}
	results := map[string]func() []int{
		"Worst":    func() []int { p, _, _ := pair.Worst(m); return p },
		"Smooth":   func() []int { p, _ := pair.Smooth(m); return p },
		"Cheapest": func() []int { p, _, _ := pair.Cheapest(m); return p },
		"Even":     func() []int { p, _, _ := pair.Even(m); return p },
		"Lacks":    func() []int { l, _ := pair.Lacks(m, 0); return l },
		"At":       func() []int { p, _ := pair.At(m, 5, 2); return p },
		"Prices":   func() []int { rows, columns, _ := pair.Prices(m); return append(rows, columns...) },
		"Most":     func() []int { _, rows, columns, _ := pair.Most(m, 2); return append(rows, columns...) },
		"Rank":     func() []int { r, _ := pair.Rank(m, 5, numbers); return []int{r} },
		"Proves":   func() []int { pair.Proves(m, numbers, numbers, 0); return nil },
	}
	for name, result := range results {
		first := result()
		kept := slices.Clone(first)
		for i := range first {
			first[i] = -1
		}
		if again := result(); !slices.Equal(again, kept) {
			t.Errorf("%s = %v, then %v", name, kept, again)
		}
	}
	if !slices.Equal(slices.Concat(m...), []int{1, 2, 2, 3, 5, 2, 2, 1, 4}) || !slices.Equal(numbers, []int{1, 0, 2}) {
		t.Error("an argument was changed")
	}
	rows, columns, _ := pair.Prices(m)
	kept := slices.Clone(columns)
	for i := range rows[:cap(rows)] {
		rows[:cap(rows)][i] = -1
	}
	if !slices.Equal(columns, kept) {
		t.Errorf("the columns %v are now %v", kept, columns)
	}
}
