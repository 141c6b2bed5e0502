package rhythm_test

import (
	"slices"
	"strings"
	"testing"

	"bolster/api"
	"bolster/rhythm"
)

func TestF1TwoPeriods(t *testing.T) {
	for s := range all {
		periods, e := rhythm.Periods(s)
		if e != api.OK || periods[len(periods)-1] != len(s) {
			t.Fatalf("Periods(%q) = %v, %d", s, periods, e)
		}
		for _, p := range periods {
			for _, q := range periods {
				if d := gcd(p, q); len(s) >= p+q-d && !slices.Contains(periods, d) {
					t.Fatalf("Periods(%q) = %v: %d and %d, but not %d", s, periods, p, q, d)
				}
			}
		}
	}
}

func TestF2Lyndon(t *testing.T) {
	for s := range all {
		words, e := rhythm.Lyndon(s)
		if e != api.OK || strings.Join(words, "") != s {
			t.Fatalf("Lyndon(%q) = %q, %d", s, words, e)
		}
		for i, w := range words {
			if !isLyndon(w) || i > 0 && words[i-1] < w {
				t.Fatalf("Lyndon(%q) = %q: %q", s, words, w)
			}
			if again, e := rhythm.Lyndon(w); e != api.OK || !slices.Equal(again, []string{w}) {
				t.Fatalf("Lyndon(%q) = %q, %d", w, again, e)
			}
		}
	}
}

func TestF3CriticalPositions(t *testing.T) {
	for s := range all {
		periods, _ := rhythm.Periods(s)
		critical, e := rhythm.Critical(s)
		p := periods[0]
		for from := 1; from+p <= len(s); from++ {
			if e != api.OK || !slices.ContainsFunc(critical, func(i int) bool { return from <= i && i < from+p }) {
				t.Fatalf("Critical(%q) = %v, %d: none of %d from %d on", s, critical, e, p, from)
			}
		}
	}
}

func TestF4Runs(t *testing.T) {
	for s := range all {
		runs, e := rhythm.Runs(s)
		sum := 0.0
		for _, r := range runs {
			sum += float64(r.To-r.From) / float64(r.Period)
		}
		if e != api.OK || len(runs) >= len(s) || sum >= 3*float64(len(s)) {
			t.Fatalf("Runs(%q) = %v, %d", s, runs, e)
		}
	}
}

func TestF5Squares(t *testing.T) {
	for s := range all {
		if n, e := rhythm.Squares(s); e != api.OK || n >= len(s) {
			t.Fatalf("Squares(%q) = %d, %d", s, n, e)
		}
	}
}

// reversed returns a string of single bytes backwards.
func reversed(s string) string {
	b := []byte(s)
	slices.Reverse(b)
	return string(b)
}

func TestF6Even(t *testing.T) {
	even := map[string]bool{}
	for p := 1; p < api.MaxBeats; p++ {
		for q := 1; p+q <= api.MaxBeats; q++ {
			if gcd(p, q) > 1 {
				continue
			}
			s, e := rhythm.Even(p, q)
			even[s] = true
			if e != api.OK || strings.Count(s, "a") != p || strings.Count(s, "b") != q || len(s) != p+q {
				t.Fatalf("Even(%d, %d) = %q, %d", p, q, s, e)
			}
			if m := s[1 : len(s)-1]; m != reversed(m) || !isLyndon(s) {
				t.Fatalf("Even(%d, %d) = %q", p, q, s)
			}
			if p+q <= 40 || p+q == api.MaxBeats {
				checkBalanced(t, s)
			}
		}
	}
	for s := range rhythms("ab", 13) {
		b, e := rhythm.Balanced(s)
		if e != api.OK || b && isLyndon(s) && len(s) > 1 && !even[s] {
			t.Fatalf("Balanced(%q) = %t, %d: it is a Lyndon word and not even", s, b, e)
		}
	}
}

func checkBalanced(t *testing.T, s string) {
	t.Helper()
	if b, e := rhythm.Balanced(s); e != api.OK || !b {
		t.Fatalf("Balanced(%q) = %t, %d", s, b, e)
	}
}

func TestF7ThreeGaps(t *testing.T) {
	three := 0
	for _, length := range []int{1, 2, 30, 97, 360, api.MaxCircle} {
		for step := range length {
			for _, count := range []int{1, 2, 3, 7, length / 3, length / 2, length} {
				l, e := rhythm.Gaps(step, count, length)
				if e != api.OK {
					continue
				}
				sum := 0
				for _, gap := range l {
					sum += gap
				}
				slices.Sort(l)
				l = slices.Compact(l)
				if len(l) == 3 {
					three++
				}
				if sum != length || len(l) > 3 || len(l) == 3 && l[0]+l[1] != l[2] {
					t.Fatalf("Gaps(%d, %d, %d): %v, sum %d", step, count, length, l, sum)
				}
			}
		}
	}
	if three == 0 {
		t.Error("no three gaps were seen")
	}
}

func TestF8Rotations(t *testing.T) {
	for s := range all {
		k, e := rhythm.Turn(s)
		if e != api.OK || k < 0 || k >= len(s) {
			t.Fatalf("Turn(%q) = %d, %d", s, k, e)
		}
		for i := range len(s) {
			r := rotation(s, i)
			j, e := rhythm.Turn(r)
			if e != api.OK || rotation(r, j) != rotation(s, k) {
				t.Fatalf("Turn(%q) = %d, %d; Turn(%q) = %d", r, j, e, s, k)
			}
		}
	}
}
