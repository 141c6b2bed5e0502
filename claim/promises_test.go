package claim_test

import (
	"math/rand"
	"slices"
	"testing"

	"bolster/api"
	"bolster/claim"
)

// lists are the sets that the package finds.
type lists struct {
	complete, preferred, semi, stable [][]int
	granted, ideal                    []int
}

func listsOf(t *testing.T, d dispute) lists {
	t.Helper()
	var l lists
	var e [6]api.Errno
	l.complete, e[0] = claim.Complete(d.n, d.attacks)
	l.preferred, e[1] = claim.Preferred(d.n, d.attacks)
	l.semi, e[2] = claim.Semi(d.n, d.attacks)
	l.stable, e[3] = claim.Stable(d.n, d.attacks)
	l.granted, e[4] = claim.Granted(d.n, d.attacks)
	l.ideal, e[5] = claim.Ideal(d.n, d.attacks)
	if e != [6]api.Errno{} {
		t.Fatalf("%v: errors %v", d, e)
	}
	return l
}

// among reports whether a set is one of some.
func among(set []int, sets [][]int) bool {
	return slices.ContainsFunc(sets, func(other []int) bool { return slices.Equal(set, other) })
}

// defends returns what a set defends.
func defends(t *testing.T, d dispute, set []int) []int {
	t.Helper()
	l, e := claim.Defends(d.n, d.attacks, set)
	if e != api.OK {
		t.Fatalf("Defends(%v, %v): error %d", d, set, e)
	}
	return l
}

func TestA1Dung(t *testing.T) {
	for d := range disputes {
		if d.n > 6 {
			continue
		}
		for _, set := range d.setsOf() {
			if is, _ := claim.Admissible(d.n, d.attacks, set); !is {
				continue
			}
			defended := defends(t, d, set)
			for _, c := range defended {
				more := append(slices.Clone(set), c)
				slices.Sort(more)
				more = slices.Compact(more)
				if is, e := claim.Admissible(d.n, d.attacks, more); e != api.OK || !is {
					t.Fatalf("%v: %v is admissible and defends %d; with it: %t, %d", d, set, c, is, e)
				}
				if now := defends(t, d, more); !within(defended, now) {
					t.Fatalf("%v: %v defends %v, with %d only %v", d, set, defended, c, now)
				}
			}
		}
	}
}

func TestA2Granted(t *testing.T) {
	for d := range disputes {
		l := listsOf(t, d)
		if !among(l.granted, l.complete) || !inAll(l.granted, l.complete) {
			t.Fatalf("%v: %v is granted, complete are %v", d, l.granted, l.complete)
		}
		var step []int
		for k := range d.n + 1 {
			for c := range d.n {
				n, e := claim.Steps(d.n, d.attacks, c)
				if (e == api.OK && n <= k) != slices.Contains(step, c) {
					t.Fatalf("%v: step %d is %v; Steps of %d = %d, %d", d, k, step, c, n, e)
				}
			}
			step = defends(t, d, step)
		}
		if !slices.Equal(step, l.granted) || !slices.Equal(defends(t, d, step), step) {
			t.Fatalf("%v: %v is granted, the last step is %v", d, l.granted, step)
		}
	}
}

func TestA3Sets(t *testing.T) {
	for d := range disputes {
		l := listsOf(t, d)
		for i, kind := range [][][]int{l.stable, l.semi, l.preferred} {
			wider := [][][]int{l.semi, l.preferred, l.complete}[i]
			for _, set := range kind {
				if !among(set, wider) {
					t.Fatalf("%v: %v is not among %v", d, set, wider)
				}
			}
		}
		if len(l.preferred) == 0 || len(l.stable) > 0 && !equalSets(l.stable, l.semi) {
			t.Fatalf("%v: preferred are %v, stable %v, semi-stable %v", d, l.preferred, l.stable, l.semi)
		}
	}
}

func TestA4Ideal(t *testing.T) {
	for d := range disputes {
		l := listsOf(t, d)
		if !among(l.ideal, l.complete) || !within(l.granted, l.ideal) || !inAll(l.ideal, l.preferred) {
			t.Fatalf("%v: %v is ideal, %v granted, complete are %v, preferred %v", d, l.ideal, l.granted, l.complete, l.preferred)
		}
	}
}

func TestA5Rings(t *testing.T) {
	noneOdd, none := 0, 0
	for d := range disputes {
		l := listsOf(t, d)
		rings := d.ringsOf()
		ring, e := claim.Odd(d.n, d.attacks)
		if (e == api.ErrNone) != (oddOf(rings) == nil) || e == api.OK && !among(ring, rings) {
			t.Fatalf("Odd(%v) = %v, %d", d, ring, e)
		}
		if e == api.ErrNone {
			noneOdd++
			if !equalSets(l.stable, l.preferred) {
				t.Fatalf("%v has no odd ring; stable are %v, preferred %v", d, l.stable, l.preferred)
			}
		}
		if len(rings) == 0 {
			none++
			if len(l.complete) != 1 {
				t.Fatalf("%v has no ring; complete are %v", d, l.complete)
			}
		}
	}
	if none < 100 || noneOdd < none+100 {
		t.Errorf("%d disputes without rings, %d without odd ones", none, noneOdd)
	}
}

// Attacks are added to disputes and to their cores: to small ones in all ways.
func TestA6Core(t *testing.T) {
	random := rand.New(rand.NewSource(126))
	fewer := 0
	hold := func(d dispute, core, more []api.Pair) {
		whole := dispute{d.n, slices.Concat(d.attacks, more)}
		want, e := claim.Preferred(whole.n, whole.attacks)
		got, coreE := claim.Preferred(d.n, slices.Concat(core, more))
		if e != api.OK || coreE != api.OK || !equalSets(got, want) {
			t.Fatalf("%v with the core %v; with %v: %v, %d and %v, %d", d, core, more, want, e, got, coreE)
		}
	}
	for d := range disputes {
		core, e := claim.Core(d.n, d.attacks)
		if e != api.OK {
			t.Fatalf("Core(%v): error %d", d, e)
		}
		if len(core) < len(d.attacks) {
			fewer++
		}
		hold(d, core, nil)
		if d.n <= 2 {
			for choice := range 1 << (d.n * d.n) {
				hold(d, core, chosen(d.n, choice).attacks)
			}
		}
		for range 4 {
			count := random.Intn(api.MaxAttacks - len(d.attacks) + 1)
			hold(d, core, randomDispute(random, d.n, min(count, 8), 0).attacks)
		}
	}
	if fewer < 100 {
		t.Errorf("only %d cores have fewer attacks", fewer)
	}
}
