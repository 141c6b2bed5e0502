package gear_test

import (
	"math"
	"math/big"
	"slices"
	"strings"
	"testing"

	"bolster/api"
	"bolster/gear"
)

func nums(l ...string) []api.Num {
	var n []api.Num
	for _, s := range l {
		n = append(n, api.Num(s))
	}
	return n
}

// rat reads a number as it is written in lowest terms.
func rat(t *testing.T, n api.Num) *big.Rat {
	t.Helper()
	r, ok := new(big.Rat).SetString(string(n))
	if !ok || strings.TrimSuffix(r.String(), "/1") != string(n) {
		t.Fatalf("%q is no number in lowest terms", n)
	}
	return r
}

func rows(t *testing.T, basis [][]api.Num) [][]string {
	t.Helper()
	var l [][]string
	for _, r := range basis {
		var row []string
		for _, n := range r {
			row = append(row, rat(t, n).Num().String())
		}
		l = append(l, row)
	}
	return l
}

func equalRows[T comparable](a, b [][]T) bool { return slices.EqualFunc(a, b, slices.Equal[[]T]) }

func TestExamples(t *testing.T) {
	belts := []api.Belt{{A: 0, B: 1, Over: 2, Under: 1}, {A: 1, B: 2, Over: 3, Under: 1}, {A: 0, B: 2, Over: 6, Under: 1}}
	if l, e := gear.Speeds(3, belts); e != api.OK || !slices.Equal(l, nums("1", "2", "6")) {
		t.Errorf("Speeds = %q, %d", l, e)
	}
	belts[2].Over = 5
	if l, e := gear.Block(3, belts); e != api.OK || !slices.Equal(l, []int{0, 1, 2}) {
		t.Errorf("Block = %v, %d", l, e)
	}
	if l, e := gear.Slip(3, belts); e != api.OK || !slices.Equal(l, []int{0}) {
		t.Errorf("Slip = %v, %d", l, e)
	}
	p, b, e := gear.Group(3, belts)
	if e != api.OK || !slices.Equal(p, []int{2, 3, 5}) || !equalRows(b, [][]api.Num{nums("1", "1", "-1")}) {
		t.Errorf("Group = %v, %q, %d", p, b, e)
	}
	belts = []api.Belt{{A: 0, B: 1, Over: 1, Under: 1}, {A: 0, B: 1, Over: -1, Under: 1}}
	if l, e := gear.Block(2, belts); e != api.OK || !slices.Equal(l, []int{0, 1}) {
		t.Errorf("Block = %v, %d", l, e)
	}
	if l, e := gear.Twist(2, belts); e != api.ErrNone || len(l) > 0 {
		t.Errorf("Twist = %v, %d", l, e)
	}
	if l, e := gear.Speeds(1, nil); e != api.OK || !slices.Equal(l, nums("1")) {
		t.Errorf("Speeds = %q, %d", l, e)
	}
	if p, b, e := gear.Group(1, nil); e != api.OK || len(p)+len(b) > 0 {
		t.Errorf("Group = %v, %v, %d", p, b, e)
	}
}

func TestBlockAndSlip(t *testing.T) {
	for g := range gears {
		rings := ringsOf(g)
		want := blockOf(rings)
		l, e := gear.Block(g.n, g.belts)
		if (e == api.OK) != (want != nil) || e != api.OK && e != api.ErrNone || !slices.Equal(l, want) {
			t.Fatalf("Block(%v) = %v, %d; want %v", g, l, e, want)
		}
		want = slipOf(g, rings)
		if l, e := gear.Slip(g.n, g.belts); e != api.OK || !slices.Equal(l, want) {
			t.Fatalf("Slip(%v) = %v, %d; want %v", g, l, e, want)
		}
	}
}

// Each part has the speeds of its own first wheel; the ratio of two wheels is
// that of their speeds, in one part, and there is none if the gear does not turn.
func TestSpeedsAndRatio(t *testing.T) {
	turning, blocked, apart := 0, 0, 0
	for g := range gears {
		turns, first := turnsWith(ringsOf(g), -1), partsOf(g)
		speeds, e := gear.Speeds(g.n, g.belts)
		if !turns {
			blocked++
			if e != api.ErrNone || len(speeds) > 0 {
				t.Fatalf("Speeds(%v) = %q, %d", g, speeds, e)
			}
		} else {
			turning++
			checkSpeeds(t, g, first, speeds, e)
		}
		for a := range g.n {
			for b := range g.n {
				r, e := gear.Ratio(g.n, g.belts, a, b)
				if !turns || first[a] != first[b] {
					apart++
					if e != api.ErrNone || r != "" {
						t.Fatalf("Ratio(%v, %d, %d) = %q, %d", g, a, b, r, e)
					}
				} else if e != api.OK || rat(t, r).Cmp(new(big.Rat).Quo(rat(t, speeds[b]), rat(t, speeds[a]))) != 0 {
					t.Fatalf("Ratio(%v, %d, %d) = %q, %d; speeds %q", g, a, b, r, e, speeds)
				}
			}
		}
	}
	if turning < 100 || blocked < 100 || apart < 100 {
		t.Errorf("%d gears turned, %d did not; %d pairs without a ratio", turning, blocked, apart)
	}
}

func checkSpeeds(t *testing.T, g wheels, first []int, speeds []api.Num, e api.Errno) {
	t.Helper()
	if e != api.OK || len(speeds) != g.n {
		t.Fatalf("Speeds(%v) = %q, %d", g, speeds, e)
	}
	for w, s := range speeds {
		if first[w] == w && s != "1" {
			t.Fatalf("Speeds(%v) = %q: wheel %d", g, speeds, w)
		}
	}
	for i, b := range g.belts {
		s := new(big.Rat).Mul(rat(t, speeds[b.A]), big.NewRat(int64(b.Over), int64(b.Under)))
		if s.Cmp(rat(t, speeds[b.B])) != 0 {
			t.Fatalf("Speeds(%v) = %q: belt %d", g, speeds, i)
		}
	}
}

// The greatest speeds have more digits than a word.
func TestGreatSpeeds(t *testing.T) {
	var belts []api.Belt
	for w := range api.MaxWheels - 1 {
		belts = append(belts, api.Belt{A: w + 1, B: w, Over: -1, Under: api.MaxTeeth})
	}
	zeros := strings.Repeat("000", api.MaxWheels-1)
	speeds, e := gear.Speeds(api.MaxWheels, belts)
	if e != api.OK || speeds[api.MaxWheels-1] != api.Num("-1"+zeros) {
		t.Errorf("Speeds = %q, %d", speeds, e)
	}
	if r, e := gear.Ratio(api.MaxWheels, belts, api.MaxWheels-1, 0); e != api.OK || r != api.Num("-1/1"+zeros) {
		t.Errorf("Ratio = %q, %d", r, e)
	}
	if r, e := gear.Ratio(api.MaxWheels, belts, 4, 4); e != api.OK || r != "1" {
		t.Errorf("Ratio = %q, %d", r, e)
	}
}

func TestTwist(t *testing.T) {
	twisted := 0
	for g := range gears {
		want := api.OK
		for _, r := range ringsOf(g) {
			if r.ratio.Sign() < 0 {
				want = api.ErrNone
			}
		}
		l, e := gear.Twist(g.n, g.belts)
		if e != want || e == api.OK && len(l) != g.n || e != api.OK && len(l) > 0 {
			t.Fatalf("Twist(%v) = %v, %d", g, l, e)
		}
		if e != api.OK {
			twisted++
			continue
		}
		for w, first := range partsOf(g) {
			if l[w] < 0 || l[w] > 1 || first == w && l[w] != 0 {
				t.Fatalf("Twist(%v) = %v: wheel %d", g, l, w)
			}
		}
		for i, b := range g.belts {
			if (l[b.A] == l[b.B]) != (b.Over > 0) {
				t.Fatalf("Twist(%v) = %v: belt %d", g, l, i)
			}
		}
	}
	if twisted < 100 {
		t.Errorf("%d gears were twisted", twisted)
	}
}

func TestGroup(t *testing.T) {
	for g := range gears {
		wantPrimes := primesOf(g)
		var want [][]string
		for _, r := range basisOf(ringsOf(g), wantPrimes) {
			var row []string
			for _, v := range r {
				row = append(row, v.String())
			}
			want = append(want, row)
		}
		primes, basis, e := gear.Group(g.n, g.belts)
		if e != api.OK || !slices.Equal(primes, wantPrimes) || !equalRows(rows(t, basis), want) {
			t.Fatalf("Group(%v) = %v, %q, %d; want %v, %q", g, primes, basis, e, wantPrimes, want)
		}
	}
}

// Rows that need all of the normal form: a greatest common divisor, a sign that
// is changed, and elements above a leading one that are reduced.
func TestGroupNormal(t *testing.T) {
	belts := []api.Belt{{A: 0, B: 1, Over: 1, Under: 1}, {A: 0, B: 1, Over: 1, Under: 16 * 3}, {A: 0, B: 1, Over: 64 * 3, Under: 1}, {A: 1, B: 0, Over: 5, Under: 27}}
	p, b, e := gear.Group(2, belts)
	// The exponents of 2, 3, 5: -4 -1 0, 6 1 0 and, the other way, 0 -3 1.
	want := [][]api.Num{nums("2", "0", "0"), nums("0", "1", "0"), nums("0", "0", "1")}
	if e != api.OK || !slices.Equal(p, []int{2, 3, 5}) || !equalRows(b, want) {
		t.Errorf("Group = %v, %q, %d", p, b, e)
	}
	p, b, e = gear.Group(2, []api.Belt{{A: 0, B: 1, Over: 7, Under: 7}, {A: 0, B: 1, Over: 2, Under: 2}})
	if e != api.OK || !slices.Equal(p, []int{2, 7}) || len(b) > 0 {
		t.Errorf("Group = %v, %q, %d", p, b, e)
	}
}

// calls are the functions; each one reports whether its result is the zero value.
func calls() map[string]func(int, []api.Belt) (bool, api.Errno) {
	return map[string]func(int, []api.Belt) (bool, api.Errno){
		"Speeds": func(n int, b []api.Belt) (bool, api.Errno) { l, e := gear.Speeds(n, b); return len(l) == 0, e },
		"Block":  func(n int, b []api.Belt) (bool, api.Errno) { l, e := gear.Block(n, b); return len(l) == 0, e },
		"Slip":   func(n int, b []api.Belt) (bool, api.Errno) { l, e := gear.Slip(n, b); return len(l) == 0, e },
		"Ratio":  func(n int, b []api.Belt) (bool, api.Errno) { r, e := gear.Ratio(n, b, 0, 0); return r == "", e },
		"Group":  func(n int, b []api.Belt) (bool, api.Errno) { p, r, e := gear.Group(n, b); return len(p)+len(r) == 0, e },
		"Twist":  func(n int, b []api.Belt) (bool, api.Errno) { l, e := gear.Twist(n, b); return len(l) == 0, e },
	}
}

func belt(a, b, over, under int) api.Belt { return api.Belt{A: a, B: b, Over: over, Under: under} }

func TestRefused(t *testing.T) {
	good := api.Belt{A: 0, B: 1, Over: 1, Under: 1}
	full := make([]api.Belt, api.MaxBelts)
	for i := range full {
		full[i] = good
	}
	refused := []wheels{{0, nil}, {-1, nil}, {api.MaxWheels + 1, nil}, {math.MaxInt, nil}, {math.MinInt, nil}, {2, append(full, good)}}
	for _, b := range []api.Belt{{}, belt(0, 0, 1, 1), belt(1, 1, 1, 1), belt(-1, 0, 1, 1), belt(0, -1, 1, 1), belt(0, 3, 1, 1), belt(3, 0, 1, 1),
		belt(math.MaxInt, 0, 1, 1), belt(0, math.MinInt, 1, 1), belt(0, 1, 0, 1), belt(0, 1, 1, 0), belt(0, 1, 1, -1), belt(0, 1, -1, -1),
		belt(0, 1, api.MaxTeeth+1, 1), belt(0, 1, -api.MaxTeeth-1, 1), belt(0, 1, 1, api.MaxTeeth+1),
		belt(0, 1, math.MaxInt, 1), belt(0, 1, math.MinInt, 1), belt(0, 1, 1, math.MaxInt), belt(0, 1, 1, math.MinInt)} {
		refused = append(refused, wheels{3, []api.Belt{b}}, wheels{3, []api.Belt{good, b}}, wheels{3, []api.Belt{b, good}})
	}
	for name, call := range calls() {
		for _, g := range refused {
			if zero, e := call(g.n, g.belts); e != api.ErrArg || !zero {
				t.Errorf("%s(%v): %d, zero %t", name, g, e, zero)
			}
		}
		for _, b := range []api.Belt{belt(0, 1, api.MaxTeeth, api.MaxTeeth), belt(1, 0, -api.MaxTeeth, 1), belt(9, 0, 1, api.MaxTeeth)} {
			if _, e := call(api.MaxWheels, []api.Belt{b}); e != api.OK && name != "Block" || e == api.ErrArg {
				t.Errorf("%s(%v): %d", name, b, e)
			}
		}
		if _, e := call(2, full); e == api.ErrArg {
			t.Errorf("%s of %d belts: %d", name, len(full), e)
		}
	}
}

// Wheels that are none are refused before it is said that the gear does not turn.
func TestRatioRefused(t *testing.T) {
	blocked := []api.Belt{{A: 0, B: 1, Over: 1, Under: 1}, {A: 0, B: 1, Over: 2, Under: 1}}
	for _, belts := range [][]api.Belt{nil, blocked, blocked[:1]} {
		for _, w := range []int{-1, 3, math.MaxInt, math.MinInt} {
			for _, x := range [][2]int{{w, 0}, {0, w}, {w, w}} {
				if r, e := gear.Ratio(3, belts, x[0], x[1]); e != api.ErrArg || r != "" {
					t.Errorf("Ratio(%v, %v) = %q, %d", belts, x, r, e)
				}
			}
		}
	}
	if r, e := gear.Ratio(3, blocked, 2, 2); e != api.ErrNone || r != "" {
		t.Errorf("Ratio of a gear that does not turn = %q, %d", r, e)
	}
}

// R5 and R6: arguments are not changed, and results are new memory and the same
// for the same arguments; a nil slice is an empty one.
func TestMemory(t *testing.T) {
	turning := []api.Belt{{A: 1, B: 0, Over: 4, Under: 2}, {A: 2, B: 1, Over: -6, Under: 4}}
	blocked := append(slices.Clone(turning), api.Belt{A: 2, B: 0, Over: 3, Under: 5}, api.Belt{A: 0, B: 1, Over: 7, Under: 1})
	asked := slices.Concat(turning, blocked)
	again := func(name string, spoil func() (*int, *api.Num), want int) {
		for range 2 {
			switch n, s := spoil(); {
			case n != nil && *n == want:
				*n = -1
			case s != nil && *s == "1":
				*s = "?"
			default:
				t.Errorf("%s: a result was changed", name)
			}
		}
	}
	again("Speeds", func() (*int, *api.Num) { l, _ := gear.Speeds(3, turning); return nil, &l[0] }, 0)
	again("Block", func() (*int, *api.Num) { l, _ := gear.Block(3, blocked); return &l[1], nil }, 3)
	again("Slip", func() (*int, *api.Num) { l, _ := gear.Slip(3, blocked); return &l[1], nil }, 1)
	again("Twist", func() (*int, *api.Num) { l, _ := gear.Twist(3, turning); return &l[2], nil }, 1)
	again("Group", func() (*int, *api.Num) { p, _, _ := gear.Group(3, blocked); return &p[0], nil }, 2)
	again("Group", func() (*int, *api.Num) { _, b, _ := gear.Group(3, blocked); return nil, &b[0][0] }, 0)
	if !slices.Equal(asked, slices.Concat(turning, blocked)) {
		t.Error("an argument was changed")
	}
	for name, call := range calls() {
		zero, e := call(2, nil)
		if emptyZero, f := call(2, []api.Belt{}); zero != emptyZero || e != f {
			t.Errorf("%s: nil %d, empty %d", name, e, f)
		}
	}
}
