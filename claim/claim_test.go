package claim_test

import (
	"math"
	"math/rand"
	"slices"
	"testing"

	"bolster/api"
	"bolster/claim"
)

func equalSets(a, b [][]int) bool { return slices.EqualFunc(a, b, slices.Equal[[]int]) }

func TestExamples(t *testing.T) {
	each := []api.Pair{{A: 0, B: 1}, {A: 1, B: 0}}
	chain := []api.Pair{{A: 0, B: 1}, {A: 1, B: 2}}
	three := []api.Pair{{A: 0, B: 1}, {A: 1, B: 2}, {A: 2, B: 0}}
	if l, e := claim.Granted(2, each); e != api.OK || len(l) != 0 {
		t.Errorf("Granted = %v, %d", l, e)
	}
	if l, e := claim.Preferred(2, each); e != api.OK || !equalSets(l, [][]int{{0}, {1}}) {
		t.Errorf("Preferred = %v, %d", l, e)
	}
	if l, e := claim.Stable(2, each); e != api.OK || !equalSets(l, [][]int{{0}, {1}}) {
		t.Errorf("Stable = %v, %d", l, e)
	}
	if l, e := claim.Complete(2, each); e != api.OK || !equalSets(l, [][]int{{}, {0}, {1}}) {
		t.Errorf("Complete = %v, %d", l, e)
	}
	if l, e := claim.Ideal(2, each); e != api.OK || len(l) != 0 {
		t.Errorf("Ideal = %v, %d", l, e)
	}
	if l, e := claim.Granted(3, chain); e != api.OK || !slices.Equal(l, []int{0, 2}) {
		t.Errorf("Granted = %v, %d", l, e)
	}
	for c, want := range map[int]int{0: 1, 2: 2} {
		if n, e := claim.Steps(3, chain, c); e != api.OK || n != want {
			t.Errorf("Steps of %d = %d, %d", c, n, e)
		}
	}
	if l, e := claim.Preferred(3, three); e != api.OK || !equalSets(l, [][]int{{}}) {
		t.Errorf("Preferred = %v, %d", l, e)
	}
	if l, e := claim.Stable(3, three); e != api.OK || len(l) != 0 {
		t.Errorf("Stable = %v, %d", l, e)
	}
	if l, e := claim.Odd(3, three); e != api.OK || !slices.Equal(l, []int{0, 1, 2}) {
		t.Errorf("Odd = %v, %d", l, e)
	}
	own := []api.Pair{{A: 0, B: 0}, {A: 0, B: 1}, {A: 1, B: 0}}
	if l, e := claim.Core(2, own); e != api.OK || !slices.Equal(l, []api.Pair{{A: 0, B: 0}, {A: 1, B: 0}}) {
		t.Errorf("Core = %v, %d", l, e)
	}
}

// listing is a function that returns sets.
type listing func(n int, attacks []api.Pair) ([][]int, api.Errno)

// single is a function that returns one set, or the claims of a ring.
type single func(n int, attacks []api.Pair) ([]int, api.Errno)

// Every kind of set is held against what the definitions find among all sets.
func TestSets(t *testing.T) {
	for d := range disputes {
		a := d.answersOf()
		for _, c := range []struct {
			name string
			call listing
			want [][]int
		}{
			{"Preferred", claim.Preferred, a.preferred}, {"Stable", claim.Stable, a.stable},
			{"Complete", claim.Complete, a.complete}, {"Semi", claim.Semi, a.semi},
		} {
			if l, e := c.call(d.n, d.attacks); e != api.OK || !equalSets(l, c.want) {
				t.Fatalf("%s(%v) = %v, %d; want %v", c.name, d, l, e, c.want)
			}
		}
		for _, c := range []struct {
			name string
			call single
			want []int
		}{{"Granted", claim.Granted, a.granted}, {"Ideal", claim.Ideal, a.ideal}} {
			if l, e := c.call(d.n, d.attacks); e != api.OK || !slices.Equal(l, c.want) {
				t.Fatalf("%s(%v) = %v, %d; want %v", c.name, d, l, e, c.want)
			}
		}
	}
}

// Among the disputes are such whose sets of the several kinds differ.
func TestSetsDiffer(t *testing.T) {
	differ := map[string]int{}
	for d := range disputes {
		a := d.answersOf()
		for name, is := range map[string]bool{
			"several preferred": len(a.preferred) > 1, "no stable": len(a.stable) == 0,
			"semi-stable, not stable":       !equalSets(a.semi, a.stable),
			"preferred, not semi-stable":    !equalSets(a.preferred, a.semi),
			"complete, not preferred":       !equalSets(a.complete, a.preferred),
			"ideal, not granted":            !slices.Equal(a.ideal, a.granted),
			"ideal, not all of what is met": !slices.Equal(a.ideal, met(a.preferred)),
			"late":                          len(a.granted) > 0 && a.steps[a.granted[0]] > 2,
		} {
			if is {
				differ[name]++
			}
		}
	}
	for _, name := range []string{
		"several preferred", "no stable", "semi-stable, not stable", "preferred, not semi-stable",
		"complete, not preferred", "ideal, not granted", "ideal, not all of what is met", "late",
	} {
		if differ[name] < 10 {
			t.Errorf("%s: only %d disputes", name, differ[name])
		}
	}
}

// met returns the claims that are in all of some sets.
func met(sets [][]int) []int {
	return slices.DeleteFunc(slices.Clone(sets[0]), func(c int) bool {
		return !inAll([]int{c}, sets)
	})
}

func TestSteps(t *testing.T) {
	for d := range disputes {
		steps := d.stepsOf()
		for c := range d.n {
			want, wantE := steps[c], api.OK
			if want == 0 {
				wantE = api.ErrNone
			}
			if n, e := claim.Steps(d.n, d.attacks, c); n != want || e != wantE {
				t.Fatalf("Steps(%v, %d) = %d, %d; want %d", d, c, n, e, want)
			}
		}
	}
	chain := dispute{n: api.MaxClaims}
	for c := range chain.n - 1 {
		chain.attacks = append(chain.attacks, api.Pair{A: c + 1, B: c})
	}
	if n, e := claim.Steps(chain.n, chain.attacks, 1); e != api.OK || n != api.MaxClaims/2 {
		t.Errorf("Steps = %d, %d", n, e)
	}
}

func TestAdmissibleDefends(t *testing.T) {
	random := rand.New(rand.NewSource(120))
	for d := range disputes {
		sets := d.setsOf()
		for _, i := range random.Perm(len(sets))[:min(40, len(sets))] {
			set := sets[i]
			if is, e := claim.Admissible(d.n, d.attacks, set); e != api.OK || is != d.isAdmissible(set) {
				t.Fatalf("Admissible(%v, %v) = %t, %d", d, set, is, e)
			}
			if l, e := claim.Defends(d.n, d.attacks, set); e != api.OK || !slices.Equal(l, d.defendedBy(set)) {
				t.Fatalf("Defends(%v, %v) = %v, %d; want %v", d, set, l, e, d.defendedBy(set))
			}
		}
	}
}

func TestCore(t *testing.T) {
	for d := range disputes {
		if l, e := claim.Core(d.n, d.attacks); e != api.OK || !slices.Equal(l, d.coreOf()) {
			t.Fatalf("Core(%v) = %v, %d; want %v", d, l, e, d.coreOf())
		}
	}
	twice := []api.Pair{{A: 1, B: 0}, {A: 0, B: 2}, {A: 1, B: 0}, {A: 0, B: 1}, {A: 0, B: 2}}
	if l, e := claim.Core(3, twice); e != api.OK || !slices.Equal(l, []api.Pair{{A: 0, B: 1}, {A: 0, B: 2}, {A: 1, B: 0}}) {
		t.Errorf("Core = %v, %d", l, e)
	}
}

func TestOdd(t *testing.T) {
	lengths := map[int]int{}
	for d := range disputes {
		want, wantE := oddOf(d.ringsOf()), api.OK
		if want == nil {
			wantE = api.ErrNone
		}
		if l, e := claim.Odd(d.n, d.attacks); e != wantE || !slices.Equal(l, want) {
			t.Fatalf("Odd(%v) = %v, %d; want %v", d, l, e, want)
		}
		lengths[len(want)]++
	}
	for _, length := range []int{0, 1, 3, 5} {
		if lengths[length] < 10 {
			t.Errorf("only %d disputes have a ring of %d", lengths[length], length)
		}
	}
}

// Of equally short rings that begin alike the lexicographically least one counts, also
// where rings of an even number of attacks are shorter.
func TestOddTies(t *testing.T) {
	pairs := func(ways ...[]int) []api.Pair {
		var l []api.Pair
		for _, way := range ways {
			for i, c := range way {
				l = append(l, api.Pair{A: c, B: way[(i+1)%len(way)]})
			}
		}
		return l
	}
	for _, c := range []struct {
		ways [][]int
		want []int
	}{
		{[][]int{{2, 1, 0}, {3, 5, 4}}, []int{0, 2, 1}},
		{[][]int{{4, 3, 2}, {5, 1, 2}, {0, 1}}, []int{1, 2, 5}},
		{[][]int{{0, 3, 2}, {0, 3, 1}}, []int{0, 3, 1}},
		{[][]int{{0, 5, 4}, {0, 1, 2, 3, 6}}, []int{0, 5, 4}},
		{[][]int{{0, 1}, {1, 2}, {7, 8, 9, 10, 11}}, []int{7, 8, 9, 10, 11}},
		{[][]int{{0, 1}, {1, 2, 3, 4, 5}}, []int{1, 2, 3, 4, 5}},
		{[][]int{{0, 1, 2}, {9}, {8}}, []int{8}},
		{[][]int{{0, 11, 1, 10, 2, 9, 3, 8, 4, 7, 5}}, []int{0, 11, 1, 10, 2, 9, 3, 8, 4, 7, 5}},
	} {
		if l, e := claim.Odd(api.MaxClaims, pairs(c.ways...)); e != api.OK || !slices.Equal(l, c.want) {
			t.Errorf("Odd of %v = %v, %d; want %v", c.ways, l, e, c.want)
		}
	}
}

// Six times two claims that attack each other can be held in all ways.
func TestMany(t *testing.T) {
	d := crossed(api.MaxClaims)
	for name, c := range map[string]struct {
		call listing
		want int
	}{
		"Complete": {claim.Complete, 729}, "Preferred": {claim.Preferred, 64},
		"Stable": {claim.Stable, 64}, "Semi": {claim.Semi, 64},
	} {
		l, e := c.call(d.n, d.attacks)
		if e != api.OK || len(l) != c.want || !slices.IsSortedFunc(l, slices.Compare[[]int]) {
			t.Errorf("%s: %d sets, error %d; want %d in lexicographic order", name, len(l), e, c.want)
		}
	}
}

// all calls every function with a dispute, and returns its error and whether its other
// results are zero values.
func all(n int, attacks []api.Pair, c int, set []int) map[string]outcome {
	results := map[string]outcome{}
	for name, call := range map[string]single{"Granted": claim.Granted, "Ideal": claim.Ideal, "Odd": claim.Odd} {
		l, e := call(n, attacks)
		results[name] = outcome{e, len(l) == 0}
	}
	for name, call := range map[string]listing{"Preferred": claim.Preferred, "Stable": claim.Stable, "Complete": claim.Complete, "Semi": claim.Semi} {
		l, e := call(n, attacks)
		results[name] = outcome{e, len(l) == 0}
	}
	steps, e := claim.Steps(n, attacks, c)
	results["Steps"] = outcome{e, steps == 0}
	is, e := claim.Admissible(n, attacks, set)
	results["Admissible"] = outcome{e, !is}
	defended, e := claim.Defends(n, attacks, set)
	results["Defends"] = outcome{e, len(defended) == 0}
	core, e := claim.Core(n, attacks)
	results["Core"] = outcome{e, len(core) == 0}
	return results
}

type outcome struct {
	e    api.Errno
	zero bool
}

func TestErrors(t *testing.T) {
	most := slices.Repeat([]api.Pair{{A: 0, B: 0}}, api.MaxAttacks)
	for _, d := range []dispute{
		{n: 0}, {n: -1}, {n: api.MaxClaims + 1}, {n: math.MinInt}, {n: math.MaxInt}, {n: 64},
		{1, append(slices.Clone(most), api.Pair{})},
		{1, []api.Pair{{A: 1, B: 0}}}, {1, []api.Pair{{A: 0, B: 1}}}, {3, []api.Pair{{}, {A: 0, B: 3}}},
		{3, []api.Pair{{A: -1, B: 0}}}, {3, []api.Pair{{A: 0, B: -1}}}, {3, []api.Pair{{A: 4, B: -1}}},
		{12, []api.Pair{{A: 12, B: 0}}}, {12, []api.Pair{{A: 0, B: 12}}},
		{2, []api.Pair{{A: math.MinInt, B: 0}}}, {2, []api.Pair{{A: 0, B: math.MaxInt}}},
		{2, []api.Pair{{A: 0, B: math.MinInt}}}, {2, []api.Pair{{A: math.MaxInt, B: 0}}},
	} {
		for _, set := range [][]int{nil, {0}, {5, 4}} {
			for name, r := range all(d.n, d.attacks, 0, set) {
				if r.e != api.ErrArg || !r.zero {
					t.Errorf("%s(%v): %v", name, d, r)
				}
			}
		}
	}
	for name, r := range all(1, most, 0, nil) {
		want := api.OK
		if name == "Steps" {
			want = api.ErrNone
		}
		if r.e != want {
			t.Errorf("%s with %d attacks: error %d", name, api.MaxAttacks, r.e)
		}
	}
	for _, c := range []int{-1, 3, api.MaxClaims, math.MinInt, math.MaxInt} {
		if n, e := claim.Steps(3, nil, c); e != api.ErrArg || n != 0 {
			t.Errorf("Steps of %d = %d, %d", c, n, e)
		}
	}
	for _, set := range [][]int{{-1}, {3}, {0, 3}, {1, 0}, {1, 1}, {0, 1, 1}, {-1, 0}, {0, 2, 1}, {math.MinInt}, {math.MaxInt}, {0, math.MinInt}, {2, math.MaxInt}, {64}} {
		if is, e := claim.Admissible(3, nil, set); e != api.ErrForm || is {
			t.Errorf("Admissible of %v = %t, %d", set, is, e)
		}
		if l, e := claim.Defends(3, nil, set); e != api.ErrForm || len(l) > 0 {
			t.Errorf("Defends of %v = %v, %d", set, l, e)
		}
	}
	if l, e := claim.Odd(3, []api.Pair{{A: 0, B: 1}, {A: 1, B: 0}, {A: 1, B: 2}}); e != api.ErrNone || len(l) > 0 {
		t.Errorf("Odd = %v, %d", l, e)
	}
}

func TestMemory(t *testing.T) {
	attacks := []api.Pair{{A: 0, B: 1}, {A: 1, B: 0}, {A: 4, B: 4}, {A: 2, B: 3}, {A: 2, B: 3}}
	set := []int{0, 2}
	keptAttacks, keptSet := slices.Clone(attacks), slices.Clone(set)
	for name, result := range map[string]func() [][]int{
		"Granted":   func() [][]int { l, _ := claim.Granted(5, attacks); return [][]int{l} },
		"Ideal":     func() [][]int { l, _ := claim.Ideal(5, attacks); return [][]int{l} },
		"Odd":       func() [][]int { l, _ := claim.Odd(5, attacks); return [][]int{l} },
		"Defends":   func() [][]int { l, _ := claim.Defends(5, attacks, set); return [][]int{l} },
		"Preferred": func() [][]int { l, _ := claim.Preferred(5, attacks); return l },
		"Stable":    func() [][]int { l, _ := claim.Stable(4, attacks[:2]); return l },
		"Complete":  func() [][]int { l, _ := claim.Complete(5, attacks); return l },
		"Semi":      func() [][]int { l, _ := claim.Semi(5, attacks); return l },
	} {
		lists := result()
		var before [][]int
		for _, l := range lists {
			before = append(before, slices.Clone(l))
		}
		for i, l := range lists {
			if len(l) == 0 && name != "Complete" || !slices.Equal(l, before[i]) {
				t.Errorf("%s = %v is now %v", name, before, lists)
			}
			for j := range l[:cap(l)] {
				l[:cap(l)][j] = -1
			}
		}
		if again := result(); !equalSets(again, before) {
			t.Errorf("%s = %v, then %v", name, before, again)
		}
	}
	core, _ := claim.Core(5, attacks)
	for i := range core[:cap(core)] {
		core[:cap(core)][i] = api.Pair{A: -1, B: -1}
	}
	if !slices.Equal(attacks, keptAttacks) || !slices.Equal(set, keptSet) {
		t.Errorf("the arguments are now %v, %v", attacks, set)
	}
	for name, want := range all(5, nil, 0, nil) {
		if got := all(5, []api.Pair{}, 0, []int{})[name]; got != want {
			t.Errorf("%s: %v with empty slices, %v with nil", name, got, want)
		}
	}
}
