package teeth_test

import (
	"math"
	"math/rand"
	"slices"
	"testing"

	"bolster/api"
	"bolster/teeth"
)

func TestExamples(t *testing.T) {
	if l, e := teeth.Terms(43, 30); e != api.OK || !slices.Equal(l, []int{1, 2, 3, 4}) {
		t.Errorf("Terms = %v, %d", l, e)
	}
	if p, q, e := teeth.Near(43, 30, 7); p != 10 || q != 7 || e != api.OK {
		t.Errorf("Near = %d, %d, %d", p, q, e)
	}
	if p, q, e := teeth.Near(1, 2, 1); p != 0 || q != 1 || e != api.OK {
		t.Errorf("Near = %d, %d, %d", p, q, e)
	}
	if p, q, e := teeth.Between(1, 3, 1, 2); p != 2 || q != 5 || e != api.OK {
		t.Errorf("Between = %d, %d, %d", p, q, e)
	}
	if first, l, e := teeth.Root(7); first != 2 || e != api.OK || !slices.Equal(l, []int{1, 1, 1, 4}) {
		t.Errorf("Root = %d, %v, %d", first, l, e)
	}
	if x, y, e := teeth.Pell(7, 1); x != "8" || y != "3" || e != api.OK {
		t.Errorf("Pell = %s, %s, %d", x, y, e)
	}
	if x, y, e := teeth.Pell(7, -1); x != "" || y != "" || e != api.ErrNone {
		t.Errorf("Pell = %s, %s, %d", x, y, e)
	}
	if x, y, e := teeth.Pell(2, -1); x != "1" || y != "1" || e != api.OK {
		t.Errorf("Pell = %s, %s, %d", x, y, e)
	}
	if l, e := teeth.Train(5, 7, []int{20, 30, 28}, 1); e != api.OK || !sameTrain(l, [][]int{{0, 2}}) {
		t.Errorf("Train = %v, %d", l, e)
	}
	if l, e := teeth.Digits([]int{0, 1, 1, 1, 1, 2}, 7); e != api.OK || !slices.Equal(l, []int{0, 0, 1, 0, 1}) {
		t.Errorf("Digits = %v, %d", l, e)
	}
	if s, e := teeth.Beats(2, 7); s != "bababba" || e != api.OK {
		t.Errorf("Beats = %s, %d", s, e)
	}
	if l, e := teeth.Markov(100); e != api.OK || !slices.Equal(l, []int{1, 2, 5, 13, 29, 34, 89}) {
		t.Errorf("Markov = %v, %d", l, e)
	}
}

// fractions yields all small fractions, and some great ones.
func fractions(yield func(over, under int) bool) {
	for over := 1; over <= 40; over++ {
		for under := 1; under <= 40; under++ {
			if !yield(over, under) {
				return
			}
		}
	}
	greatFractions(yield)
}

// greatFractions yields fractions up to the limits.
func greatFractions(yield func(over, under int) bool) {
	random := rand.New(rand.NewSource(1))
	const most = api.MaxOver
	fixed := [][2]int{{most, most}, {most, 1}, {1, most}, {most, most - 1}, {most - 1, most}, {832040, 514229},
		{514229, 832040}, {2, most - 1}, {most - 1, 2}, {470832, 665857}, {499999, most}, {500001, most}, {999, most}}
	for _, f := range fixed {
		if !yield(f[0], f[1]) {
			return
		}
	}
	for range 40 {
		if !yield(1+random.Intn(most), 1+random.Intn(most)) || !yield(1+random.Intn(1000), 1+random.Intn(most)) {
			return
		}
	}
}

func TestTerms(t *testing.T) {
	for over, under := range fractions {
		l, e := teeth.Terms(over, under)
		if e != api.OK || !areTerms(l) || valueOf(l).Cmp(rat(over, under)) != 0 {
			t.Fatalf("Terms(%d, %d) = %v, %d", over, under, l, e)
		}
	}
	for _, c := range []struct {
		over, under int
		want        []int
	}{{1, 1, []int{1}}, {6, 3, []int{2}}, {1, 2, []int{0, 2}}, {2, 4, []int{0, 2}}, {3, 2, []int{1, 2}}, {5, 3, []int{1, 1, 2}},
		{api.MaxOver, 1, []int{api.MaxOver}}, {1, api.MaxOver, []int{0, api.MaxOver}}} {
		if l, e := teeth.Terms(c.over, c.under); e != api.OK || !slices.Equal(l, c.want) {
			t.Errorf("Terms(%d, %d) = %v, %d; want %v", c.over, c.under, l, e, c.want)
		}
	}
}

// holdNear holds Near against the definition.
func holdNear(t *testing.T, over, under, most int) {
	t.Helper()
	wantP, wantQ := nearOf(over, under, most)
	if p, q, e := teeth.Near(over, under, most); p != wantP || q != wantQ || e != api.OK || gcd(p, q) != 1 {
		t.Fatalf("Near(%d, %d, %d) = %d, %d, %d; want %d, %d", over, under, most, p, q, e, wantP, wantQ)
	}
}

func TestNear(t *testing.T) {
	for over := 1; over <= 70; over++ {
		for under := 1; under <= 70; under++ {
			for most := 1; most <= 24; most++ {
				holdNear(t, over, under, most)
			}
		}
	}
	random := rand.New(rand.NewSource(2))
	for over, under := range greatFractions {
		for _, most := range []int{1, 2, 3, 10, 99, 1000, 1 + random.Intn(40000), 50000} {
			holdNear(t, over, under, most)
		}
	}
	for _, most := range []int{499999, api.MaxOver - 1, api.MaxOver} {
		holdNear(t, api.MaxOver-1, api.MaxOver, most)
		holdNear(t, 271828, 999999, most)
		holdNear(t, 1, api.MaxOver, most)
	}
}

// Of two fractions that are equally close that with the lesser denominator counts, and
// of two whole numbers the lesser one.
func TestNearTies(t *testing.T) {
	for _, c := range [][5]int{{5, 2, 1, 2, 1}, {1, 2, 1, 0, 1}, {1, 4, 2, 0, 1}, {3, 4, 2, 1, 1}, {5, 12, 3, 1, 2}, {7, 12, 3, 1, 2}, {43, 12, 3, 7, 2},
		{api.MaxOver - 1, 2, 1, (api.MaxOver - 2) / 2, 1}} {
		if p, q, e := teeth.Near(c[0], c[1], c[2]); p != c[3] || q != c[4] || e != api.OK {
			t.Errorf("Near(%d, %d, %d) = %d, %d, %d", c[0], c[1], c[2], p, q, e)
		}
	}
}

// holdBetween holds Between of two fractions, in the order in which they are.
func holdBetween(t *testing.T, a, b, c, d int) {
	t.Helper()
	p, q, e := teeth.Between(a, b, c, d)
	if a*d >= c*b {
		if p != 0 || q != 0 || e != api.ErrArg {
			t.Fatalf("Between(%d, %d, %d, %d) = %d, %d, %d", a, b, c, d, p, q, e)
		}
		return
	}
	if wantP, wantQ := betweenOf(a, b, c, d); p != wantP || q != wantQ || e != api.OK || gcd(p, q) != 1 {
		t.Fatalf("Between(%d, %d, %d, %d) = %d, %d, %d; want %d, %d", a, b, c, d, p, q, e, wantP, wantQ)
	}
}

func TestBetween(t *testing.T) {
	const small = 14
	for a := 1; a <= 3*small; a++ {
		for b := 1; b <= small; b++ {
			for c := 1; c <= 3*small; c++ {
				for d := 1; d <= small; d++ {
					holdBetween(t, a, b, c, d)
				}
			}
		}
	}
	random := rand.New(rand.NewSource(3))
	for over, under := range greatFractions {
		holdBetween(t, over, under, 1+random.Intn(api.MaxOver), 1+random.Intn(api.MaxOver))
		holdBetween(t, 1+random.Intn(api.MaxOver), 1+random.Intn(api.MaxOver), over, under)
		if over > 1 && under > 1 {
			holdBetween(t, over-1, under, over, under)
			holdBetween(t, over, under, over, under-1)
			holdBetween(t, over-1, under-1, over, under)
			holdBetween(t, over, under, over-1, under-1)
		}
	}
}

func sameTrain(x, y [][]int) bool { return slices.EqualFunc(x, y, slices.Equal) }

// holdTrain holds Train against the definition.
func holdTrain(t *testing.T, over, under int, wheels []int, pairs int) {
	t.Helper()
	want := trainOf(over, under, wheels, pairs)
	if l, e := teeth.Train(over, under, wheels, pairs); e != api.OK || !sameTrain(l, want) || len(l) != pairs {
		t.Fatalf("Train(%d, %d, %v, %d) = %v, %d; want %v", over, under, wheels, pairs, l, e, want)
	}
}

func TestTrain(t *testing.T) {
	random := rand.New(rand.NewSource(4))
	for _, c := range []struct{ n, pairs, most, times int }{
		{2, 1, 3, 20}, {3, 1, 40, 50}, {10, 1, 6, 20}, {10, 1, 1000, 20}, {4, 2, 4, 50}, {5, 2, 1000, 50}, {7, 2, 12, 20},
		{10, 2, 100, 4}, {6, 3, 3, 10}, {6, 3, 1000, 10}, {7, 3, 30, 4}, {8, 3, 1000, 2}, {10, 3, 1000, 1}, {10, 3, 2, 1}} {
		for range c.times {
			wheels := make([]int, c.n)
			for i := range wheels {
				wheels[i] = 1 + random.Intn(c.most)
			}
			holdTrain(t, 1+random.Intn(c.most*c.most), 1+random.Intn(c.most*c.most), wheels, c.pairs)
		}
	}
}

// The differences of these trains are very close to each other, and their numbers are
// as great as they can be.
func TestTrainGreat(t *testing.T) {
	great := []int{1000, 999, 998, 997, 996, 995, 994, 993}
	for _, f := range [][2]int{{api.MaxOver, api.MaxOver - 1}, {api.MaxOver, api.MaxOver}, {999_983, 1_000_000}, {api.MaxOver, 1}, {1, api.MaxOver}} {
		holdTrain(t, f[0], f[1], great, 2)
		holdTrain(t, f[0], f[1], great[:7], 3)
		holdTrain(t, f[0], f[1], []int{1000, 1, 1000, 1, 1000, 1}, 3)
		holdTrain(t, f[0], f[1], []int{1, 1000, 999, 1000, 1, 998}, 3)
	}
}

// Of equally close trains the lexicographically least one counts.
func TestTrainTies(t *testing.T) {
	for _, c := range []struct {
		over, under int
		wheels      []int
		pairs       int
		want        [][]int
	}{
		{1, 1, []int{5, 5, 5, 5, 5, 5}, 3, [][]int{{0, 1}, {2, 3}, {4, 5}}},
		{3, 1, []int{2, 1, 1, 4}, 1, [][]int{{0, 1}}},
		{3, 1, []int{4, 1, 1, 2}, 1, [][]int{{0, 1}}},
		{3, 1, []int{1, 1, 4, 2}, 1, [][]int{{2, 0}}},
		{6, 1, []int{1, 2, 1, 3}, 2, [][]int{{1, 0}, {3, 2}}},
		{6, 1, []int{3, 1, 2, 1}, 2, [][]int{{0, 1}, {2, 3}}},
		{1, 6, []int{3, 1, 2, 1}, 2, [][]int{{1, 0}, {3, 2}}},
	} {
		if l, e := teeth.Train(c.over, c.under, c.wheels, c.pairs); e != api.OK || !sameTrain(l, c.want) {
			t.Errorf("Train(%d, %d, %v, %d) = %v, %d; want %v", c.over, c.under, c.wheels, c.pairs, l, e, c.want)
		}
	}
}

// numerations are terms with few numbers below the last denominator.
var numerations = [][]int{{0, 1}, {5, 1}, {0, 2}, {3, 7}, {0, 1, 1}, {0, 1, 2}, {0, 2, 1}, {1, 1, 1, 1}, {api.MaxOver, 2, 3, 4}, {0, 3, 1, 2}, {0, 1, 1, 1, 1, 2},
	{1, 1, 1, 1, 1, 1, 1}, {2, 4, 1, 1, 3}, {0, 1, 4, 1, 3}, {0, 2, 2, 2, 2}, {0, 5, 5, 5}, {0, 1, 3, 1, 3, 1}}

func TestDigits(t *testing.T) {
	for _, terms := range numerations {
		count := underOf(terms, len(terms)-1)
		for n := range count {
			l, e := teeth.Digits(terms, n)
			if e != api.OK || !areDigits(terms, l) || numberOf(terms, l) != n {
				t.Fatalf("Digits(%v, %d) = %v, %d", terms, n, l, e)
			}
		}
		for _, n := range []int{math.MinInt, -1, count, count + 1, math.MaxInt} {
			if l, e := teeth.Digits(terms, n); e != api.ErrNone || len(l) > 0 {
				t.Fatalf("Digits(%v, %d) = %v, %d", terms, n, l, e)
			}
		}
	}
}

func TestNumber(t *testing.T) {
	for _, terms := range numerations {
		for _, digits := range allDigits(terms) {
			n, e := teeth.Number(terms, digits)
			if areDigits(terms, digits) && (n != numberOf(terms, digits) || e != api.OK) {
				t.Fatalf("Number(%v, %v) = %d, %d; want %d", terms, digits, n, e, numberOf(terms, digits))
			}
			if !areDigits(terms, digits) && (n != 0 || e != api.ErrForm) {
				t.Fatalf("Number(%v, %v) = %d, %d", terms, digits, n, e)
			}
		}
		zeros := make([]int, len(terms)+1)
		for _, length := range []int{0, len(terms) - 2, len(terms), len(terms) + 1} {
			if n, e := teeth.Number(terms, zeros[:length]); n != 0 || e != api.ErrForm {
				t.Fatalf("Number(%v, %v) = %d, %d", terms, zeros[:length], n, e)
			}
		}
	}
}

// ones returns that number of terms, all 1.
func ones(n int) []int { return slices.Repeat([]int{1}, n) }

// Terms that are just valid, with the last denominator; and such that are not.
func TestNumerations(t *testing.T) {
	const most = api.MaxOver
	for _, c := range []struct {
		terms []int
		under int
	}{
		{ones(20), 6765}, {[]int{most, most}, most}, {[]int{0, 2997, 333667}, 1_000_000_000}, {[]int{0, 1000, 999_999}, 999_999_001},
		{[]int{0, 1, most}, most + 1}, {[]int{0, most, 1}, most + 1}, {[]int{0, 1, 1, 1, 1, 1, 1, 1, 1, 1, 1, 1, 1, 1, 1, 1, 1, 1, 1, most}, 4181_002584},
		{[]int{0, 1, 1, 1, 1, 1, 1, 1, 1, 1, 1, 1, 1, 1, 1, 1, 1, 1, 1, 200_000}, 836_202584},
	} {
		last := c.under - 1
		l, e := teeth.Digits(c.terms, last)
		n, f := teeth.Number(c.terms, l)
		if c.under > 1_000_000_000 {
			if e != api.ErrArg || len(l) > 0 || n != 0 || f != api.ErrArg {
				t.Errorf("%v: %v, %d, %d, %d", c.terms, l, e, n, f)
			}
			continue
		}
		if e != api.OK || !areDigits(c.terms, l) || numberOf(c.terms, l) != last || n != last || f != api.OK {
			t.Errorf("%v: %v, %d, %d, %d", c.terms, l, e, n, f)
		}
		if l, e := teeth.Digits(c.terms, c.under); e != api.ErrNone || len(l) > 0 {
			t.Errorf("Digits(%v, %d) = %v, %d", c.terms, c.under, l, e)
		}
	}
	for _, terms := range [][]int{nil, {}, {1}, ones(21), ones(1000), {-1, 2}, {most + 1, 2}, {0, 0}, {0, -1}, {0, most + 1}, {0, 2, 0, 2}, {0, 2, -1}, {0, 2, most + 1},
		{0, 1000, most}, {0, most, 1000, -1}, slices.Repeat([]int{most}, 20), {math.MinInt, 1}, {math.MaxInt, 1}, {0, math.MaxInt}, {0, 2, math.MaxInt, 2}, {0, 2, math.MinInt}} {
		for _, n := range []int{0, -1, math.MaxInt} {
			if l, e := teeth.Digits(terms, n); e != api.ErrArg || len(l) > 0 {
				t.Errorf("Digits(%v, %d) = %v, %d", terms, n, l, e)
			}
		}
		for _, digits := range [][]int{nil, make([]int, max(0, len(terms)-1)), {-1}, make([]int, 50)} {
			if n, e := teeth.Number(terms, digits); n != 0 || e != api.ErrArg {
				t.Errorf("Number(%v, %v) = %d, %d", terms, digits, n, e)
			}
		}
	}
	for _, digits := range [][]int{{math.MaxInt, 0}, {0, math.MaxInt}, {math.MinInt, 0}, {0, math.MinInt}, {most, most}} {
		if n, e := teeth.Number([]int{0, 1000, 1000}, digits); n != 0 || e != api.ErrForm {
			t.Errorf("Number(%v) = %d, %d", digits, n, e)
		}
	}
}

func TestMarkov(t *testing.T) {
	const most = 1_000_000_000
	all := markovOf(most)
	for _, m := range []int{1, 2, 3, 4, 5, 12, 13, 33, 34, 35, 1000, 5741, 6466, 1_000_000, 433494437, 433494436, most - 1, most} {
		end, _ := slices.BinarySearch(all, m+1)
		if l, e := teeth.Markov(m); e != api.OK || !slices.Equal(l, all[:end]) {
			t.Errorf("Markov(%d) = %v, %d; want %v", m, l, e, all[:end])
		}
	}
	// Every pair of numbers is tried, whatever they are.
	var found []int
	for x := 1; x <= 300; x++ {
		for y := x; x*y <= 30000; y++ {
			for _, z := range thirdOf(x, y) {
				if !isTriple(x, y, z) {
					t.Fatalf("%d, %d, %d is no triple", x, y, z)
				}
				if z <= 30000 {
					found = append(found, x, y, z)
				}
			}
		}
	}
	slices.Sort(found)
	if l, e := teeth.Markov(30000); e != api.OK || !slices.Equal(l, slices.Compact(found)) {
		t.Errorf("Markov(30000) = %v, %d; want %v", l, e, slices.Compact(found))
	}
}

// call is a call of a function with numbers alone: what it returns, and whether all
// results but the error are zero values.
type call func(args []int) (api.Errno, bool)

var terms = call(func(a []int) (api.Errno, bool) { l, e := teeth.Terms(a[0], a[1]); return e, len(l) == 0 })
var near = call(func(a []int) (api.Errno, bool) { p, q, e := teeth.Near(a[0], a[1], a[2]); return e, p == 0 && q == 0 })
var between = call(func(a []int) (api.Errno, bool) {
	p, q, e := teeth.Between(a[0], a[1], a[2], a[3])
	return e, p == 0 && q == 0
})
var root = call(func(a []int) (api.Errno, bool) { r, l, e := teeth.Root(a[0]); return e, r == 0 && len(l) == 0 })
var pell = call(func(a []int) (api.Errno, bool) { x, y, e := teeth.Pell(a[0], a[1]); return e, x == "" && y == "" })
var train = call(func(a []int) (api.Errno, bool) { l, e := teeth.Train(a[0], a[1], a[3:], a[2]); return e, len(l) == 0 })
var beats = call(func(a []int) (api.Errno, bool) { s, e := teeth.Beats(a[0], a[1]); return e, s == "" })
var markov = call(func(a []int) (api.Errno, bool) { l, e := teeth.Markov(a[0]); return e, len(l) == 0 })

func TestErrors(t *testing.T) {
	const most = api.MaxOver
	for _, c := range []struct {
		name string
		call call
		args []int
		want api.Errno
	}{
		{"Between", between, []int{1, 2, 1, 2}, api.ErrArg}, {"Between", between, []int{1, 2, 2, 4}, api.ErrArg},
		{"Between", between, []int{2, 3, 1, 2}, api.ErrArg}, {"Between", between, []int{most, most - 1, most, most}, api.ErrArg},
		{"Root", root, []int{4}, api.ErrNone}, {"Root", root, []int{961}, api.ErrNone},
		{"Pell", pell, []int{4, 1}, api.ErrNone}, {"Pell", pell, []int{961, -1}, api.ErrNone}, {"Pell", pell, []int{3, -1}, api.ErrNone},
		{"Pell", pell, []int{4, 0}, api.ErrArg}, {"Pell", pell, []int{4, 2}, api.ErrArg}, {"Pell", pell, []int{4, -2}, api.ErrArg},
		{"Train", train, []int{1, 1, 1}, api.ErrNone}, {"Train", train, []int{1, 1, 1, 5}, api.ErrNone},
		{"Train", train, []int{1, 1, 2, 5, 5, 5}, api.ErrNone}, {"Train", train, []int{1, 1, 3, 5, 5, 5, 5, 5}, api.ErrNone},
		{"Train", train, []int{1, 1, 3, 5, 5, 0, 5, 5}, api.ErrArg}, {"Train", train, []int{1, 1, 4, 5, 5}, api.ErrArg},
		{"Train", train, []int{1, 1, 1, 1001}, api.ErrArg}, {"Train", train, []int{1, 1, 1, -1}, api.ErrArg},
		{"Train", train, []int{0, 1, 1, 5}, api.ErrArg}, {"Train", train, []int{1, 1, 0, 5}, api.ErrArg},
		{"Train", train, append([]int{1, 1, 1}, ones(11)...), api.ErrArg}, {"Train", train, append([]int{1, 1, 3}, ones(10)...), api.OK},
		{"Beats", beats, []int{9, 5}, api.ErrNone}, {"Beats", beats, []int{9, -1}, api.ErrArg}, {"Beats", beats, []int{9, 1001}, api.ErrArg},
	} {
		if e, zero := c.call(c.args); e != c.want || zero != (e != api.OK) {
			t.Errorf("%s%v: error %d, zero values: %t", c.name, c.args, e, zero)
		}
	}
}

// TestRanges puts, in place of each of some valid arguments, numbers at the ends of its
// range, and beyond them.
func TestRanges(t *testing.T) {
	const most = api.MaxOver
	for _, c := range []struct {
		name   string
		call   call
		args   []int
		ranges [][2]int
	}{
		{"Terms", terms, []int{3, 5}, [][2]int{{1, most}, {1, most}}},
		{"Near", near, []int{3, 5, 4}, [][2]int{{1, most}, {1, most}, {1, most}}},
		{"Between", between, []int{1, 3, most, 1}, [][2]int{{1, most}, {1, most}, {1, most}, {1, most}}},
		{"Root", root, []int{7}, [][2]int{{2, 1000}}},
		{"Pell", pell, []int{2, 1}, [][2]int{{2, 1000}, {-1, 1}}},
		{"Train", train, []int{3, 5, 1, 20, 30, 40, 50, 60, 70}, [][2]int{{1, most}, {1, most}, {1, 3}, {1, 1000}, {1, 1000}}},
		{"Beats", beats, []int{2, 5}, [][2]int{{2, 1000}, {0, 1000}}},
		{"Markov", markov, []int{5}, [][2]int{{1, 1_000_000_000}}},
	} {
		for i, r := range c.ranges {
			args := slices.Clone(c.args)
			for _, v := range []int{r[0], r[1], r[0] + 1, r[1] - 1} {
				args[i] = v
				if e, _ := c.call(args); e != api.OK && !allowed(c.name, args) {
					t.Errorf("%s%v: error %d", c.name, args, e)
				}
			}
			for _, v := range []int{r[0] - 1, r[1] + 1, math.MinInt, math.MinInt + 1, math.MaxInt, math.MaxInt - 1, math.MaxInt / 2, 1 << 32, -1 << 32} {
				args[i] = v
				if e, zero := c.call(args); e != api.ErrArg || !zero {
					t.Errorf("%s%v: error %d, zero values: %t", c.name, args, e, zero)
				}
			}
		}
	}
}

// allowed reports whether arguments within their ranges have an error all the same.
func allowed(name string, args []int) bool {
	switch name {
	case "Between":
		return rat(args[0], args[1]).Cmp(rat(args[2], args[3])) >= 0
	case "Pell":
		return args[1] == 0 || args[1] == -1 && (args[0] == 3 || args[0] == 999)
	}
	return false
}

// Arguments are not changed, results are new, and nil is an empty slice (R4, R5).
func TestMemory(t *testing.T) {
	wheels, row, digits := []int{20, 30, 28, 17}, []int{0, 1, 1, 1, 1, 2}, []int{0, 0, 1, 0, 1}
	kept := slices.Concat(wheels, row, digits)
	for name, result := range map[string]func() []int{
		"Terms":  func() []int { l, _ := teeth.Terms(43, 30); return l },
		"Root":   func() []int { _, l, _ := teeth.Root(7); return l },
		"Digits": func() []int { l, _ := teeth.Digits(row, 7); return l },
		"Markov": func() []int { l, _ := teeth.Markov(100); return l },
		"Train":  func() []int { l, _ := teeth.Train(5, 7, wheels, 2); return l[1] },
		"Number": func() []int { n, _ := teeth.Number(row, digits); return []int{n} },
	} {
		first := result()
		before := slices.Clone(first)
		for i := range first[:cap(first)] {
			first[:cap(first)][i] = -1
		}
		if again := result(); !slices.Equal(again, before) {
			t.Errorf("%s = %v, then %v", name, before, again)
		}
	}
	if !slices.Equal(kept, slices.Concat(wheels, row, digits)) {
		t.Error("an argument was changed")
	}
	l, _ := teeth.Train(5, 7, wheels, 2)
	second := slices.Clone(l[1])
	for i := range l[0][:cap(l[0])] {
		l[0][:cap(l[0])][i] = -1
	}
	if !slices.Equal(l[1], second) {
		t.Errorf("the pair %v is now %v", second, l[1])
	}
	for _, none := range [][]int{nil, {}} {
		if l, e := teeth.Train(5, 7, none, 1); e != api.ErrNone || len(l) > 0 {
			t.Errorf("Train = %v, %d", l, e)
		}
		if n, e := teeth.Number(row, none); e != api.ErrForm || n != 0 {
			t.Errorf("Number = %d, %d", n, e)
		}
	}
}
