package water_test

import (
	"math"
	"slices"
	"testing"

	"bolster/api"
	"bolster/water"
)

func TestExamples(t *testing.T) {
	flow, gains := []int{2, 0}, [][]int{{5, 1}, {4, 3}}
	if use, worth, e := water.Best(flow, gains); e != api.OK || worth != 9 || !slices.Equal(use, []int{1, 1}) {
		t.Errorf("Best = %v, %d, %d", use, worth, e)
	}
	if l, e := water.Shares(flow, gains); e != api.OK || !slices.Equal(l, []int{6, 3}) {
		t.Errorf("Shares = %v, %d", l, e)
	}
	if w, e := water.Alone(flow, gains, []int{0}); e != api.OK || w != 6 {
		t.Errorf("Alone = %d, %d", w, e)
	}
	if l, e := water.Prices(flow, gains); e != api.OK || !slices.Equal(l, []int{3, 3}) {
		t.Errorf("Prices = %v, %d", l, e)
	}
	flow, gains = []int{0, 2}, [][]int{{9}, {1}}
	if use, worth, e := water.Best(flow, gains); e != api.OK || worth != 1 || !slices.Equal(use, []int{0, 1}) {
		t.Errorf("Best = %v, %d, %d", use, worth, e)
	}
	if w, e := water.Aspires(flow, gains, []int{1}); e != api.OK || w != 1 {
		t.Errorf("Aspires = %d, %d", w, e)
	}
	if w, e := water.Aspires(flow, gains, []int{0}); e != api.OK || w != 0 {
		t.Errorf("Aspires = %d, %d", w, e)
	}
	if l, e := water.Calls([]int{3, 1}, []int{3, 3}, []int{1, 0}); e != api.OK || !slices.Equal(l, []int{1, 3}) {
		t.Errorf("Calls = %v, %d", l, e)
	}
}

func TestWorth(t *testing.T) {
	for r := range small {
		var most []int
		for range r.flow {
			most = append(most, 3)
		}
		for use := range uses(most) {
			want, wantE := worthOf(r.gains, use), api.OK
			if !possible(r.flow, use) {
				want, wantE = 0, api.ErrNone
			}
			if w, e := water.Worth(r.flow, r.gains, use); w != want || e != wantE {
				t.Fatalf("Worth(%v, %v) = %d, %d; want %d, %d", r, use, w, e, want, wantE)
			}
		}
	}
}

// A use may have more pieces than there are gains, and flow on to the mouth.
func TestWorthBeyondGains(t *testing.T) {
	r := stream{[]int{30, 30}, [][]int{{4}, {7, 2}}}
	for _, c := range []struct {
		use  []int
		want int
	}{{[]int{30, 30}, 13}, {[]int{0, 60}, 9}, {[]int{29, 1}, 11}, {[]int{0, 0}, 0}} {
		if w, e := water.Worth(r.flow, r.gains, c.use); w != c.want || e != api.OK {
			t.Errorf("Worth(%v) = %d, %d; want %d", c.use, w, e, c.want)
		}
	}
}

// Numbers whose sums overflow are uses that are not possible.
func TestWorthOverflow(t *testing.T) {
	flow, gains := []int{30, 30, 30}, [][]int{{1}, {1}, {1}}
	for _, use := range [][]int{{math.MaxInt, 0, 0}, {0, math.MaxInt, math.MaxInt}, {0, 0, math.MaxInt}, {math.MaxInt, math.MaxInt, 2}, {31, 0, 0}, {30, 31, 0}, {30, 30, 31}} {
		if w, e := water.Worth(flow, gains, use); w != 0 || e != api.ErrNone {
			t.Errorf("Worth(%v) = %d, %d", use, w, e)
		}
	}
}

func TestBest(t *testing.T) {
	for r := range small {
		want, worth := bestOf(r)
		if use, w, e := water.Best(r.flow, r.gains); e != api.OK || w != worth || !slices.Equal(use, want) {
			t.Fatalf("Best(%v) = %v, %d, %d; want %v, %d", r, use, w, e, want, worth)
		}
	}
	for r := range large {
		want, worth := tableOf(r)
		if use, w, e := water.Best(r.flow, r.gains); e != api.OK || w != worth || !slices.Equal(use, want) {
			t.Fatalf("Best(%v) = %v, %d, %d; want %v, %d", r, use, w, e, want, worth)
		}
	}
}

// Of uses of the same worth the lexicographically least one: nothing is used for
// a gain of 0, and as little as possible upstream.
func TestBestTies(t *testing.T) {
	for _, c := range []struct {
		r    stream
		want []int
	}{
		{stream{[]int{1, 0, 0}, [][]int{{3}, {3}, {3}}}, []int{0, 0, 1}},
		{stream{[]int{2, 0, 0}, [][]int{{3}, {3}, {3}}}, []int{0, 1, 1}},
		{stream{[]int{5}, [][]int{{0, 0}}}, []int{0}},
		{stream{[]int{5, 0}, [][]int{{2, 0}, {0}}}, []int{1, 0}},
	} {
		if use, _, e := water.Best(c.r.flow, c.r.gains); e != api.OK || !slices.Equal(use, c.want) {
			t.Errorf("Best(%v) = %v, %d; want %v", c.r, use, e, c.want)
		}
	}
}

func TestAlone(t *testing.T) {
	for r := range small {
		for _, group := range groups(len(r.flow)) {
			want := aloneOf(r, group)
			if w, e := water.Alone(r.flow, r.gains, group); e != api.OK || w != want {
				t.Fatalf("Alone(%v, %v) = %d, %d; want %d", r, group, w, e, want)
			}
		}
	}
}

// The places of a row share their water; those of different rows do not.
func TestAloneRows(t *testing.T) {
	r := stream{[]int{3, 0, 0, 0}, [][]int{{1}, {1}, {1}, {1}}}
	for _, c := range []struct {
		group []int
		want  int
	}{{nil, 0}, {[]int{0, 2}, 1}, {[]int{0, 1, 3}, 2}, {[]int{0, 1, 2}, 3}, {[]int{1, 2, 3}, 0}, {[]int{0, 2, 3}, 1}} {
		if w, e := water.Alone(r.flow, r.gains, c.group); e != api.OK || w != c.want {
			t.Errorf("Alone(%v) = %d, %d; want %d", c.group, w, e, c.want)
		}
	}
}

func TestAspires(t *testing.T) {
	for r := range small {
		for _, group := range groups(len(r.flow)) {
			want := aspiresOf(r, group)
			if w, e := water.Aspires(r.flow, r.gains, group); e != api.OK || w != want {
				t.Fatalf("Aspires(%v, %v) = %d, %d; want %d", r, group, w, e, want)
			}
		}
	}
}

func TestShares(t *testing.T) {
	check := func(r stream) {
		var want, group []int
		for i := range r.flow {
			before := aloneOf(r, group)
			group = append(group, i)
			want = append(want, aloneOf(r, group)-before)
		}
		if l, e := water.Shares(r.flow, r.gains); e != api.OK || !slices.Equal(l, want) {
			t.Fatalf("Shares(%v) = %v, %d; want %v", r, l, e, want)
		}
	}
	for r := range small {
		check(r)
	}
	for r := range large {
		check(r)
	}
}

func TestPrices(t *testing.T) {
	check := func(r stream) {
		_, worth := tableOf(r)
		var want []int
		for i := range r.flow {
			more := stream{slices.Clone(r.flow), r.gains}
			more.flow[i]++
			_, w := tableOf(more)
			want = append(want, w-worth)
		}
		if l, e := water.Prices(r.flow, r.gains); e != api.OK || !slices.Equal(l, want) {
			t.Fatalf("Prices(%v) = %v, %d; want %v", r, l, e, want)
		}
	}
	for r := range small {
		check(r)
	}
	for r := range large {
		check(r)
	}
}

// A piece more than MaxFlow has a price, too.
func TestPricesBeyondFlow(t *testing.T) {
	flow, gains := []int{0, api.MaxFlow}, [][]int{nil, slices.Repeat([]int{7}, api.MaxUnits)}
	if l, e := water.Prices(flow, gains); e != api.OK || !slices.Equal(l, []int{0, 0}) {
		t.Errorf("Prices = %v, %d", l, e)
	}
	flow, gains = append(flow, 0), append(gains, slices.Repeat([]int{5}, api.MaxUnits))
	if l, e := water.Prices(flow, gains); e != api.OK || !slices.Equal(l, []int{5, 5, 5}) {
		t.Errorf("Prices = %v, %d", l, e)
	}
}

func TestCalls(t *testing.T) {
	for c := range claims {
		want := callsOf(c.flow, c.rights, c.ages)
		if use, e := water.Calls(c.flow, c.rights, c.ages); e != api.OK || !slices.Equal(use, want) {
			t.Fatalf("Calls(%v) = %v, %d; want %v", c, use, e, want)
		}
	}
}

// calls are the functions of a river; each one reports whether its result is the
// zero value.
func calls() map[string]func(flow []int, gains [][]int) (bool, api.Errno) {
	return map[string]func([]int, [][]int) (bool, api.Errno){
		"Worth": func(f []int, g [][]int) (bool, api.Errno) {
			w, e := water.Worth(f, g, make([]int, len(f)))
			return w == 0, e
		},
		"Worth of a bad use": func(f []int, g [][]int) (bool, api.Errno) { w, e := water.Worth(f, g, []int{-1}); return w == 0, e },
		"Best": func(f []int, g [][]int) (bool, api.Errno) {
			u, w, e := water.Best(f, g)
			return len(u) == 0 && w == 0, e
		},
		"Alone":          func(f []int, g [][]int) (bool, api.Errno) { w, e := water.Alone(f, g, nil); return w == 0, e },
		"Alone, badly":   func(f []int, g [][]int) (bool, api.Errno) { w, e := water.Alone(f, g, []int{-1}); return w == 0, e },
		"Aspires":        func(f []int, g [][]int) (bool, api.Errno) { w, e := water.Aspires(f, g, nil); return w == 0, e },
		"Aspires, badly": func(f []int, g [][]int) (bool, api.Errno) { w, e := water.Aspires(f, g, []int{-1}); return w == 0, e },
		"Shares":         func(f []int, g [][]int) (bool, api.Errno) { l, e := water.Shares(f, g); return len(l) == 0, e },
		"Prices":         func(f []int, g [][]int) (bool, api.Errno) { l, e := water.Prices(f, g); return len(l) == 0, e },
	}
}

func TestRefused(t *testing.T) {
	many := make([]int, api.MaxPlaces+1)
	refused := []stream{{}, {many, make([][]int, len(many))}, {[]int{1}, nil}, {nil, [][]int{{1}}}, {[]int{1, 1}, [][]int{{1}}}, {[]int{1}, [][]int{{1}, {1}}}}
	for _, f := range []int{-1, api.MaxFlow + 1, math.MaxInt, math.MinInt} {
		refused = append(refused, stream{[]int{f}, [][]int{{1}}}, stream{[]int{1, f}, [][]int{{1}, {1}}})
	}
	for _, l := range [][]int{{-1}, {api.MaxGain + 1}, {math.MaxInt}, {math.MinInt}, {1, 2}, {5, 4, 4, 5}, {5, -1}, make([]int, api.MaxUnits+1)} {
		refused = append(refused, stream{[]int{1}, [][]int{l}}, stream{[]int{1, 1}, [][]int{{1}, l}}, stream{[]int{1, 1}, [][]int{l, {1}}})
	}
	for name, call := range calls() {
		for _, r := range refused {
			if zero, e := call(r.flow, r.gains); e != api.ErrArg || !zero {
				t.Errorf("%s(%v): %d, zero %t", name, r, e, zero)
			}
		}
		for r := range large {
			if _, e := call(r.flow, r.gains); e == api.ErrArg {
				t.Errorf("%s(%v): %d", name, r, e)
			}
		}
	}
}

func TestMalformed(t *testing.T) {
	r := stream{[]int{1, 0, 2}, [][]int{{5}, {4}, {3}}}
	for _, use := range [][]int{nil, {0}, {0, 0}, {0, 0, 0, 0}, {-1, 0, 0}, {0, 0, -1}, {0, math.MinInt, 0}, {9, 9, -1}, {9, 9}} {
		if w, e := water.Worth(r.flow, r.gains, use); w != 0 || e != api.ErrForm {
			t.Errorf("Worth(%v) = %d, %d", use, w, e)
		}
	}
	for _, group := range [][]int{{-1}, {3}, {0, 0}, {1, 0}, {0, 2, 1}, {0, 1, 2, 3}, {0, 1, 1}, {math.MinInt}, {math.MaxInt}, {0, math.MaxInt}, {math.MaxInt, math.MinInt}} {
		if w, e := water.Alone(r.flow, r.gains, group); w != 0 || e != api.ErrForm {
			t.Errorf("Alone(%v) = %d, %d", group, w, e)
		}
		if w, e := water.Aspires(r.flow, r.gains, group); w != 0 || e != api.ErrForm {
			t.Errorf("Aspires(%v) = %d, %d", group, w, e)
		}
	}
}

func TestCallsRefused(t *testing.T) {
	many := make([]int, api.MaxPlaces+1)
	var ages []int
	for i := range many {
		ages = append(ages, i)
	}
	refused := []rights{{}, {many, many, ages}, {nil, []int{1}, []int{0}}, {[]int{1}, nil, []int{0}}, {[]int{1}, []int{1}, nil},
		{[]int{1}, []int{1, 1}, []int{0}}, {[]int{1}, []int{1}, []int{0, 1}}, {[]int{1, 1}, []int{1, 1}, []int{0}}}
	for _, v := range []int{-1, api.MaxFlow + 1, math.MaxInt, math.MinInt} {
		refused = append(refused, rights{[]int{1, v}, []int{1, 1}, []int{0, 1}}, rights{[]int{1, 1}, []int{v, 1}, []int{0, 1}})
	}
	for _, l := range [][]int{{0, 0}, {1, 1}, {1, 2}, {0, 2}, {-1, 0}, {0, math.MaxInt}, {math.MinInt, 1}} {
		refused = append(refused, rights{[]int{1, 1}, []int{1, 1}, l})
	}
	for _, c := range refused {
		if use, e := water.Calls(c.flow, c.rights, c.ages); e != api.ErrArg || len(use) > 0 {
			t.Errorf("Calls(%v) = %v, %d", c, use, e)
		}
	}
	full := slices.Repeat([]int{api.MaxFlow}, api.MaxPlaces)
	if use, e := water.Calls(full, full, ages[:api.MaxPlaces]); e != api.OK || !slices.Equal(use, full) {
		t.Errorf("Calls = %v, %d", use, e)
	}
}

// R4 to R6: arguments are not changed, results are new memory and the same for
// the same arguments; a nil slice is an empty one.
func TestMemory(t *testing.T) {
	flow, gains, order := []int{2, 0, 1}, [][]int{{5, 1}, nil, {4, 3}}, []int{2, 0, 1}
	results := map[string]func() []int{
		"Best":   func() []int { l, _, _ := water.Best(flow, gains); return l },
		"Shares": func() []int { l, _ := water.Shares(flow, gains); return l },
		"Prices": func() []int { l, _ := water.Prices(flow, gains); return l },
		"Calls":  func() []int { l, _ := water.Calls(flow, flow, order); return l },
	}
	for name, result := range results {
		first := result()
		kept := slices.Clone(first)
		for i := range first {
			first[i] = -1
		}
		if again := result(); len(again) != 3 || !slices.Equal(again, kept) {
			t.Errorf("%s = %v, then %v", name, kept, again)
		}
	}
	if !slices.Equal(flow, []int{2, 0, 1}) || !slices.Equal(order, []int{2, 0, 1}) || !slices.Equal(slices.Concat(gains...), []int{5, 1, 4, 3}) {
		t.Error("an argument was changed")
	}
	use, worth, e := water.Best([]int{1}, [][]int{nil})
	empty, emptyWorth, emptyE := water.Best([]int{1}, [][]int{{}})
	if !slices.Equal(use, empty) || worth != emptyWorth || e != emptyE || e != api.OK {
		t.Errorf("Best = %v, %d, %d; %v, %d, %d", use, worth, e, empty, emptyWorth, emptyE)
	}
	for _, group := range [][]int{nil, {}} {
		if w, e := water.Alone(flow, gains, group); w != 0 || e != api.OK {
			t.Errorf("Alone(%#v) = %d, %d", group, w, e)
		}
		if w, e := water.Aspires(flow, gains, group); w != 0 || e != api.OK {
			t.Errorf("Aspires(%#v) = %d, %d", group, w, e)
		}
	}
}
