package wear_test

import (
	"math"
	"math/big"
	"math/rand"
	"slices"
	"strings"
	"testing"

	"bolster/api"
	"bolster/wear"
)

// same compares a slice of Nums, and the error, with what is wanted.
func same(t *testing.T, call string, args any, got []api.Num, e api.Errno, want []*big.Rat) {
	t.Helper()
	if e != api.OK || !slices.Equal(got, texts(want)) {
		t.Fatalf("%s(%v) = %v, %d; want %v", call, args, got, e, texts(want))
	}
}

func TestExamples(t *testing.T) {
	even, two := []api.Num{"1/2", "1/2"}, []api.Num{"0", "1"}
	if l, e := wear.Renew(even, 3); e != api.OK || !slices.Equal(l, []api.Num{"1", "1/2", "3/4", "5/8"}) {
		t.Errorf("Renew = %v, %d", l, e)
	}
	if r, span, e := wear.Mean(even); e != api.OK || r != "3/2" || span != 1 {
		t.Errorf("Mean = %s, %d, %d", r, span, e)
	}
	if l, e := wear.Ages(even); e != api.OK || !slices.Equal(l, []api.Num{"2/3", "1/3"}) {
		t.Errorf("Ages = %v, %d", l, e)
	}
	if l, e := wear.Hazards(even); e != api.OK || !slices.Equal(l, []api.Num{"1/2", "1"}) {
		t.Errorf("Hazards = %v, %d", l, e)
	}
	if l, e := wear.Rates(even, "1", "4"); e != api.OK || !slices.Equal(l, []api.Num{"5/2", "8/3"}) {
		t.Errorf("Rates = %v, %d", l, e)
	}
	if age, r, e := wear.Replace(even, "1", "4"); e != api.OK || age != 1 || r != "5/2" {
		t.Errorf("Replace = %d, %s, %d", age, r, e)
	}
	if l, e := wear.Renew(two, 4); e != api.OK || !slices.Equal(l, []api.Num{"1", "0", "1", "0", "1"}) {
		t.Errorf("Renew = %v, %d", l, e)
	}
	if r, span, e := wear.Mean(two); e != api.OK || r != "2" || span != 2 {
		t.Errorf("Mean = %s, %d, %d", r, span, e)
	}
	if r, e := wear.Spares(two, 4, 2); e != api.OK || r != "1" {
		t.Errorf("Spares = %s, %d", r, e)
	}
}

func TestRenew(t *testing.T) {
	for lives := range wheels {
		want := renewals(lives, api.MaxTimes)
		for _, n := range []int{0, 1, 2, 11, 12, 13, api.MaxTimes} {
			l, e := wear.Renew(lives, n)
			same(t, "Renew", lives, l, e, want[:n+1])
		}
	}
}

func TestMean(t *testing.T) {
	for lives := range wheels {
		if r, span, e := wear.Mean(lives); e != api.OK || r != text(meanOf(lives)) || span != spanOf(lives) {
			t.Fatalf("Mean(%v) = %s, %d, %d; want %s, %d", lives, r, span, e, text(meanOf(lives)), spanOf(lives))
		}
	}
}

func TestAges(t *testing.T) {
	for lives := range wheels {
		var want []*big.Rat
		for j := range lives {
			want = append(want, new(big.Rat).Quo(above(lives, j), meanOf(lives)))
		}
		l, e := wear.Ages(lives)
		same(t, "Ages", lives, l, e, want)
	}
}

func TestHazards(t *testing.T) {
	for lives := range wheels {
		var want []*big.Rat
		for j, chance := range lives {
			want = append(want, new(big.Rat).Quo(rational(chance), above(lives, j)))
		}
		l, e := wear.Hazards(lives)
		same(t, "Hazards", lives, l, e, want)
	}
}

func TestSpares(t *testing.T) {
	for lives := range wheels {
		for k, n := range map[int]int{0: 0, 1: 5, 2: 1, 3: 14, 4: api.MaxTimes, 5: 5, 7: 30, 12: 11, 13: api.MaxTimes, 39: api.MaxTimes, api.MaxTimes: api.MaxTimes} {
			if r, e := wear.Spares(lives, n, k); e != api.OK || r != text(spares(lives, n, k)) {
				t.Fatalf("Spares(%v, %d, %d) = %s, %d; want %s", lives, n, k, r, e, text(spares(lives, n, k)))
			}
		}
	}
}

// Each way in which a few wheels may last is tried.
func TestSparesTried(t *testing.T) {
	for _, lives := range [][]api.Num{{"1/2", "1/2"}, {"1/6", "1/3", "1/2"}, {"0", "1/5", "0", "4/5"}, {"1"}} {
		for k := range 5 {
			for n := range 18 {
				if r, e := wear.Spares(lives, n, k); e != api.OK || r != text(together(lives, n, k)) {
					t.Fatalf("Spares(%v, %d, %d) = %s, %d; want %s", lives, n, k, r, e, text(together(lives, n, k)))
				}
			}
		}
	}
}

func TestRates(t *testing.T) {
	for lives := range wheels {
		for _, c := range costs() {
			want := rates(lives, c[0], c[1])
			l, e := wear.Rates(lives, c[0], c[1])
			same(t, "Rates", lives, l, e, want)
			for i, r := range l {
				if r != text(history(lives, c[0], c[1], i+1)) {
					t.Fatalf("Rates(%v, %v) = %v", lives, c, l)
				}
			}
		}
	}
}

func TestReplace(t *testing.T) {
	for lives := range wheels {
		for _, c := range costs() {
			want := rates(lives, c[0], c[1])
			best := 0
			for i := range want {
				if want[i].Cmp(want[best]) < 0 {
					best = i
				}
			}
			if age, r, e := wear.Replace(lives, c[0], c[1]); e != api.OK || age != best+1 || r != text(want[best]) {
				t.Fatalf("Replace(%v, %v) = %d, %s, %d; want %d, %s", lives, c, age, r, e, best+1, text(want[best]))
			}
		}
	}
}

// Of several ages with the least rate the least one.
func TestReplaceTies(t *testing.T) {
	for _, c := range []struct {
		lives           []api.Num
		planned, failed api.Num
		age             int
		rate            api.Num
	}{
		{[]api.Num{"1/2", "1/2"}, "1", "3", 1, "2"},
		{[]api.Num{"0", "1/2", "1/2"}, "3", "5", 2, "2"},
		{[]api.Num{"0", "0", "1/2", "1/2"}, "1", "2", 2, "1/2"},
		{[]api.Num{"1/4", "1/2", "0", "1/4"}, "1", "5", 1, "2"}, // the ages 1 and 3
	} {
		if age, r, e := wear.Replace(c.lives, c.planned, c.failed); e != api.OK || age != c.age || r != c.rate {
			t.Errorf("Replace(%v, %s, %s) = %d, %s, %d; want %d, %s", c.lives, c.planned, c.failed, age, r, e, c.age, c.rate)
		}
	}
}

// back checks the result of Back against the equations.
func back(t *testing.T, renewals []api.Num) {
	t.Helper()
	var u, f []*big.Rat
	for _, num := range renewals {
		u = append(u, rational(num))
	}
	l, e := wear.Back(renewals)
	for _, num := range l {
		f = append(f, rational(num))
	}
	if e != api.OK || !belong(f, u) || !slices.Equal(l, texts(f)) {
		t.Fatalf("Back(%v) = %v, %d", renewals, l, e)
	}
}

func TestBack(t *testing.T) {
	random := rand.New(rand.NewSource(5))
	for i := range 200 {
		l := []api.Num{"1"}
		for range i % (api.MaxTimes + 1) {
			r := big.NewRat(random.Int63n(9)-3, 1+random.Int63n(5))
			l = append(l, text(r))
		}
		back(t, l)
	}
	for _, l := range [][]api.Num{{"1"}, {"1", "0"}, {"1", "999999"}, {"1", "-999999/999998", "0", "1/999999", "2"}} {
		back(t, l)
	}
	if l, e := wear.Back([]api.Num{"1", "1/2", "0", "-3"}); e != api.OK || !slices.Equal(l, []api.Num{"1/2", "-1/4", "-23/8"}) {
		t.Errorf("Back = %v, %d", l, e)
	}
	if l, e := wear.Back([]api.Num{"1"}); e != api.OK || len(l) != 0 {
		t.Errorf("Back = %v, %d", l, e)
	}
}

// The numbers of renewals with many great denominators stay below MaxDigits.
func TestBackLong(t *testing.T) {
	l := []api.Num{"1"}
	for k := range int64(api.MaxTimes) {
		l = append(l, text(big.NewRat(999999-k, 999998-2*k)))
	}
	back(t, l)
	f, _ := wear.Back(l)
	if longest := f[len(f)-1]; len(longest) < 1000 || len(longest) > api.MaxDigits {
		t.Errorf("%d digits", len(longest))
	}
}

// results are the functions of lives; each one reports whether all its results are
// zero values. Its other arguments are in range.
func results() map[string]func([]api.Num) (bool, api.Errno) {
	return map[string]func([]api.Num) (bool, api.Errno){
		"Renew":   func(l []api.Num) (bool, api.Errno) { r, e := wear.Renew(l, 5); return len(r) == 0, e },
		"Mean":    func(l []api.Num) (bool, api.Errno) { r, span, e := wear.Mean(l); return r == "" && span == 0, e },
		"Ages":    func(l []api.Num) (bool, api.Errno) { r, e := wear.Ages(l); return len(r) == 0, e },
		"Hazards": func(l []api.Num) (bool, api.Errno) { r, e := wear.Hazards(l); return len(r) == 0, e },
		"Spares":  func(l []api.Num) (bool, api.Errno) { r, e := wear.Spares(l, 5, 3); return r == "", e },
		"Rates":   func(l []api.Num) (bool, api.Errno) { r, e := wear.Rates(l, "1", "2"); return len(r) == 0, e },
		"Replace": func(l []api.Num) (bool, api.Errno) {
			age, r, e := wear.Replace(l, "1", "2")
			return age == 0 && r == "", e
		},
	}
}

// outside are the same functions with other arguments that are out of range.
func outside() map[string]func([]api.Num) (bool, api.Errno) {
	l := map[string]func([]api.Num) (bool, api.Errno){}
	for _, n := range []int{-1, api.MaxTimes + 1, math.MinInt, math.MaxInt} {
		name := string(text(big.NewRat(int64(n), 1)))
		l["Renew to "+name] = func(l []api.Num) (bool, api.Errno) { r, e := wear.Renew(l, n); return len(r) == 0, e }
		l["Spares for "+name] = func(l []api.Num) (bool, api.Errno) { r, e := wear.Spares(l, n, 1); return r == "", e }
		l["Spares of "+name] = func(l []api.Num) (bool, api.Errno) { r, e := wear.Spares(l, 1, n); return r == "", e }
	}
	for _, c := range [][2]api.Num{{"0", "1"}, {"1", "0"}, {"-1", "1"}, {"1", "-1/2"}, {"1000000", "1"}, {"1", "1000000"}, {"1/1000000", "1"}, {"1", "1/1000000"}, {"1000000/3", "1"}, {"1", "1000000/3"}} {
		l["Rates at "+string(c[0]+" and "+c[1])] = func(l []api.Num) (bool, api.Errno) { r, e := wear.Rates(l, c[0], c[1]); return len(r) == 0, e }
		l["Replace at "+string(c[0]+" and "+c[1])] = func(l []api.Num) (bool, api.Errno) {
			age, r, e := wear.Replace(l, c[0], c[1])
			return age == 0 && r == "", e
		}
	}
	return l
}

// malformed are strings that are no valid Nums.
func malformed() []api.Num {
	digits := strings.Repeat("1", api.MaxDigits)
	return []api.Num{"", "-", "-0", "00", "01/2", "1/02", "1/1", "2/4", "0/2", "1/0", "/2", "1/", "1/-2", "+1", "1/2/3", "1.5", " 1", "1 ", "x", "1/x", "１",
		api.Num(digits + "1"), api.Num("1/" + digits + "1"), api.Num("-" + digits + "1"), api.Num(strings.Repeat("2", api.MaxDigits) + "/" + strings.Repeat("4", api.MaxDigits))}
}

func TestMalformed(t *testing.T) {
	many := slices.Repeat([]api.Num{"1/13"}, api.MaxAge+1)
	for _, num := range malformed() {
		for _, lives := range [][]api.Num{{num}, {num, "1"}, {"1", num}, {"-1", num, "0"}, {"1/2", num, "1/2"}, append(slices.Clone(many), num)} {
			for _, functions := range []map[string]func([]api.Num) (bool, api.Errno){results(), outside()} {
				for name, call := range functions {
					if zero, e := call(lives); e != api.ErrForm || !zero {
						t.Errorf("%s(%.50q): %d, zero %t", name, lives, e, zero)
					}
				}
			}
		}
		for _, c := range [][2]api.Num{{num, "1"}, {"1", num}, {num, num}, {num, "0"}, {"-1", num}} {
			for _, lives := range [][]api.Num{{"1"}, {"1/2", "1/2"}, nil, {"1/2"}, {"2", "-1"}, many} {
				if l, e := wear.Rates(lives, c[0], c[1]); e != api.ErrForm || len(l) > 0 {
					t.Errorf("Rates(%v, %.50q) = %.50q, %d", lives, c, l, e)
				}
				if age, r, e := wear.Replace(lives, c[0], c[1]); e != api.ErrForm || age != 0 || r != "" {
					t.Errorf("Replace(%v, %.50q) = %d, %s, %d", lives, c, age, r, e)
				}
			}
		}
	}
}

func TestRefused(t *testing.T) {
	refused := [][]api.Num{nil, {}, {"0"}, {"2"}, {"1/2"}, {"-1"}, {"1", "0"}, {"1/2", "1/2", "0"}, {"3/2", "-1/2"}, {"-1/2", "3/2"}, {"1/2", "-1/2", "1"}, {"1/2", "1/3"}, {"1/2", "2/3"},
		slices.Repeat([]api.Num{"1/13"}, api.MaxAge+1), {"0", "0", "0", "0", "0", "0", "0", "0", "0", "0", "0", "0", "1"}, {"1", "1"},
		{"1/1000000", "999999/1000000"}, {"1000000/1000001", "1/1000001"}, {"1000000"}, {"999999/1000000", "1/1000000"}, {"1/2", "499999/1000000", "1/1000000"},
		{api.Num(strings.Repeat("1", api.MaxDigits))}, {api.Num("1/2" + strings.Repeat("0", api.MaxDigits-1)), "1/2"}}
	for name, call := range results() {
		for _, lives := range refused {
			if zero, e := call(lives); e != api.ErrArg || !zero {
				t.Errorf("%s(%.50v): %d, zero %t", name, lives, e, zero)
			}
		}
	}
	for name, call := range outside() {
		for _, lives := range append(refused, []api.Num{"1"}, []api.Num{"1/2", "1/2"}) {
			if zero, e := call(lives); e != api.ErrArg || !zero {
				t.Errorf("%s(%.50v): %d, zero %t", name, lives, e, zero)
			}
		}
	}
}

func TestLimits(t *testing.T) {
	for lives := range wheels {
		for name, call := range results() {
			if zero, e := call(lives); e != api.OK || zero {
				t.Errorf("%s(%v): %d, zero %t", name, lives, e, zero)
			}
		}
	}
	for _, c := range [][2]api.Num{{"999999", "999998/999999"}, {"1/999999", "999999"}} {
		if _, e := wear.Rates([]api.Num{"1"}, c[0], c[1]); e != api.OK {
			t.Errorf("Rates at %v: %d", c, e)
		}
	}
	l, e := wear.Renew(wide(), api.MaxTimes)
	if e != api.OK || len(l[api.MaxTimes]) < 600 {
		t.Errorf("Renew: %d, %d digits", e, len(l[api.MaxTimes]))
	}
}

func TestBackRefused(t *testing.T) {
	valid := slices.Repeat([]api.Num{"1"}, api.MaxTimes+1)
	if l, e := wear.Back(valid); e != api.OK || len(l) != api.MaxTimes {
		t.Errorf("Back = %v, %d", l, e)
	}
	// The number of elements comes first, then their form, and then their values.
	for _, l := range [][]api.Num{nil, {}, append(slices.Clone(valid), "1"), append(slices.Clone(valid), "x"),
		{"0"}, {"2"}, {"-1"}, {"1/2"}, {"0", "1"}, {"1", "1000000"}, {"1", "-1000000"}, {"1", "1/1000000"}, {"1", "0", "-3/1000000"}, {"1000000"}} {
		if r, e := wear.Back(l); e != api.ErrArg || len(r) > 0 {
			t.Errorf("Back(%v) = %v, %d", l, r, e)
		}
	}
	for _, num := range malformed() {
		for _, l := range [][]api.Num{{num}, {"1", num}, {"1", num, "1/2"}, {"2", num}, {"1", "1000000", num}} {
			if r, e := wear.Back(l); e != api.ErrForm || len(r) > 0 {
				t.Errorf("Back(%.50q) = %v, %d", l, r, e)
			}
		}
	}
}

// R4 to R6: arguments are not changed, results are new memory and the same for the
// same arguments.
func TestMemory(t *testing.T) {
	lives := []api.Num{"1/6", "1/3", "1/2"}
	renewals := []api.Num{"1", "1/3", "2"}
	calls := map[string]func() []api.Num{
		"Renew":   func() []api.Num { l, _ := wear.Renew(lives, 2); return l },
		"Ages":    func() []api.Num { l, _ := wear.Ages(lives); return l },
		"Hazards": func() []api.Num { l, _ := wear.Hazards(lives); return l },
		"Rates":   func() []api.Num { l, _ := wear.Rates(lives, "1", "2"); return l },
		"Back":    func() []api.Num { l, _ := wear.Back(renewals); return l },
	}
	for name, call := range calls {
		first := call()
		kept := slices.Clone(first)
		for i := range first {
			first[i] = "x"
		}
		if again := call(); len(again) == 0 || !slices.Equal(again, kept) {
			t.Errorf("%s = %v, then %v", name, kept, again)
		}
	}
	if !slices.Equal(lives, []api.Num{"1/6", "1/3", "1/2"}) || !slices.Equal(renewals, []api.Num{"1", "1/3", "2"}) {
		t.Error("an argument was changed")
	}
}
