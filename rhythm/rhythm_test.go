package rhythm_test

import (
	"math"
	"slices"
	"strings"
	"testing"

	"bolster/api"
	"bolster/rhythm"
)

// all yields every rhythm on which the package is compared with the definitions.
func all(yield func(string) bool) {
	for _, l := range []func(func(string) bool){rhythms("ab", 11), rhythms("abcd", 5), rhythms("bd", 7), long} {
		for s := range l {
			if !yield(s) {
				return
			}
		}
	}
}

func same[T comparable](t *testing.T, call, s string, got []T, e api.Errno, want []T) {
	t.Helper()
	if e != api.OK || !slices.Equal(got, want) {
		t.Fatalf("%s(%q) = %v, %d; want %v", call, s, got, e, want)
	}
}

func TestExamples(t *testing.T) {
	const s = "abaab"
	periods, e := rhythm.Periods(s)
	same(t, "Periods", s, periods, e, []int{3, 5})
	words, e := rhythm.Lyndon(s)
	same(t, "Lyndon", s, words, e, []string{"ab", "aab"})
	local, e := rhythm.Local(s)
	same(t, "Local", s, local, e, []int{2, 3, 1, 3})
	critical, e := rhythm.Critical(s)
	same(t, "Critical", s, critical, e, []int{2, 4})
	runs, e := rhythm.Runs(s)
	same(t, "Runs", s, runs, e, []api.Run{{From: 2, To: 4, Period: 1}})
	parts, e := rhythm.Parts(s)
	same(t, "Parts", s, parts, e, []int{2, 3, 3, 2, 1})
	if n, e := rhythm.Turn(s); n != 2 || e != api.OK {
		t.Errorf("Turn = %d, %d", n, e)
	}
	if n, e := rhythm.Squares(s); n != 1 || e != api.OK {
		t.Errorf("Squares = %d, %d", n, e)
	}
	gaps, e := rhythm.Gaps(3, 3, 8)
	same(t, "Gaps", "3 3 8", gaps, e, []int{3, 3, 2})
}

// A rhythm of one letter has neither inner positions nor runs.
func TestOneLetter(t *testing.T) {
	for _, s := range []string{"a", "d"} {
		periods, e := rhythm.Periods(s)
		same(t, "Periods", s, periods, e, []int{1})
		words, e := rhythm.Lyndon(s)
		same(t, "Lyndon", s, words, e, []string{s})
		local, e := rhythm.Local(s)
		same(t, "Local", s, local, e, nil)
		critical, e := rhythm.Critical(s)
		same(t, "Critical", s, critical, e, nil)
		runs, e := rhythm.Runs(s)
		same(t, "Runs", s, runs, e, nil)
		parts, e := rhythm.Parts(s)
		same(t, "Parts", s, parts, e, []int{1})
	}
}

// Runs are sorted by From, then by To, whatever their periods are; runs that
// begin at the same position, and runs within others, are all there.
func TestRunsSorted(t *testing.T) {
	runs, e := rhythm.Runs("aabaab")
	same(t, "Runs", "aabaab", runs, e, []api.Run{{From: 0, To: 2, Period: 1}, {From: 0, To: 6, Period: 3}, {From: 3, To: 5, Period: 1}})
	runs, e = rhythm.Runs("aaaa")
	same(t, "Runs", "aaaa", runs, e, []api.Run{{From: 0, To: 4, Period: 1}})
	runs, e = rhythm.Runs("ababa")
	same(t, "Runs", "ababa", runs, e, []api.Run{{From: 0, To: 5, Period: 2}})
}

// Every function does what its definition says.
func TestDefinitions(t *testing.T) {
	for s := range all {
		periods, e := rhythm.Periods(s)
		same(t, "Periods", s, periods, e, periodsOf(s))
		local, e := rhythm.Local(s)
		same(t, "Local", s, local, e, localOf(s))
		critical, e := rhythm.Critical(s)
		same(t, "Critical", s, critical, e, criticalOf(s))
		runs, e := rhythm.Runs(s)
		same(t, "Runs", s, runs, e, runsOf(s))
		parts, e := rhythm.Parts(s)
		same(t, "Parts", s, parts, e, partsOf(s))
		if n, e := rhythm.Turn(s); n != turnOf(s) || e != api.OK {
			t.Fatalf("Turn(%q) = %d, %d; want %d", s, n, e, turnOf(s))
		}
		if n, e := rhythm.Squares(s); n != squaresOf(s) || e != api.OK {
			t.Fatalf("Squares(%q) = %d, %d; want %d", s, n, e, squaresOf(s))
		}
		if b, e := rhythm.Balanced(s); b != isBalanced(s) || e != api.OK {
			t.Fatalf("Balanced(%q) = %t, %d; want %t", s, b, e, isBalanced(s))
		}
	}
}

func TestBalancedLetters(t *testing.T) {
	for s, want := range map[string]bool{"a": true, "b": true, "aabab": true, "aabb": false, "abab": true,
		"c": false, "d": false, "ac": false, "abd": false, "cb": false} {
		if b, e := rhythm.Balanced(s); b != want || e != api.OK {
			t.Errorf("Balanced(%q) = %t, %d; want %t", s, b, e, want)
		}
	}
}

// calls are the functions of a string; each one reports whether its result is
// the zero value.
func calls() map[string]func(string) (bool, api.Errno) {
	return map[string]func(string) (bool, api.Errno){
		"Periods":  func(s string) (bool, api.Errno) { l, e := rhythm.Periods(s); return len(l) == 0, e },
		"Lyndon":   func(s string) (bool, api.Errno) { l, e := rhythm.Lyndon(s); return len(l) == 0, e },
		"Turn":     func(s string) (bool, api.Errno) { n, e := rhythm.Turn(s); return n == 0, e },
		"Local":    func(s string) (bool, api.Errno) { l, e := rhythm.Local(s); return len(l) == 0, e },
		"Critical": func(s string) (bool, api.Errno) { l, e := rhythm.Critical(s); return len(l) == 0, e },
		"Runs":     func(s string) (bool, api.Errno) { l, e := rhythm.Runs(s); return len(l) == 0, e },
		"Squares":  func(s string) (bool, api.Errno) { n, e := rhythm.Squares(s); return n == 0, e },
		"Parts":    func(s string) (bool, api.Errno) { l, e := rhythm.Parts(s); return len(l) == 0, e },
		"Balanced": func(s string) (bool, api.Errno) { b, e := rhythm.Balanced(s); return !b, e },
	}
}

// What is too long is ErrLong, whatever its letters are; what else is no rhythm
// is ErrForm; together with an error there is no result.
func TestRefused(t *testing.T) {
	full := strings.Repeat("ba", api.MaxBeats/2)
	want := map[string]api.Errno{
		full:                       api.OK,
		full + "a":                 api.ErrLong,
		full + "?":                 api.ErrLong,
		full[1:] + "??":            api.ErrLong,
		full[1:] + "?":             api.ErrForm,
		"":                         api.ErrForm,
		"e":                        api.ErrForm,
		"`":                        api.ErrForm,
		"A":                        api.ErrForm,
		"abe":                      api.ErrForm,
		"eab":                      api.ErrForm,
		"ab ab":                    api.ErrForm,
		"ab\n":                     api.ErrForm,
		"\x00":                     api.ErrForm,
		"a\xff":                    api.ErrForm,
		"ä":                        api.ErrForm,
		strings.Repeat("ä", 100):   api.ErrForm, // 200 bytes
		strings.Repeat("ä", 101):   api.ErrLong,
		strings.Repeat("a", 1<<20): api.ErrLong,
	}
	for name, call := range calls() {
		for s, e := range want {
			zero, got := call(s)
			if got != e || e != api.OK && !zero {
				t.Errorf("%s(%.20q of %d bytes): %d, zero %t; want %d", name, s, len(s), got, zero, e)
			}
		}
	}
}

func TestEven(t *testing.T) {
	for _, x := range []struct {
		p, q int
		s    string
	}{{2, 1, "aab"}, {3, 2, "aabab"}, {1, 1, "ab"}, {1, 2, "abb"}, {4, 1, "aaaab"}, {2, 3, "ababb"}} {
		if s, e := rhythm.Even(x.p, x.q); s != x.s || e != api.OK {
			t.Errorf("Even(%d, %d) = %q, %d; want %q", x.p, x.q, s, e, x.s)
		}
	}
	big := api.MaxBeats
	for _, x := range []struct {
		p, q int
		e    api.Errno
	}{{0, 1, api.ErrArg}, {1, 0, api.ErrArg}, {0, 0, api.ErrArg}, {-1, 2, api.ErrArg}, {2, -1, api.ErrArg},
		{big, 1, api.ErrArg}, {1, big, api.ErrArg}, {big, big, api.ErrArg}, {big - 1, 1, api.OK}, {1, big - 1, api.OK},
		{big/2 + 1, big / 2, api.ErrArg}, {big / 2, big / 2, api.ErrNone}, {4, 2, api.ErrNone}, {2, 2, api.ErrNone},
		{math.MaxInt, 1, api.ErrArg}, {1, math.MaxInt, api.ErrArg}, {math.MaxInt, math.MaxInt, api.ErrArg},
		{math.MinInt, 1, api.ErrArg}, {math.MaxInt, math.MinInt, api.ErrArg}, {math.MinInt, math.MinInt, api.ErrArg}} {
		s, e := rhythm.Even(x.p, x.q)
		if e != x.e || (e == api.OK) != (len(s) == big) || e != api.OK && s != "" {
			t.Errorf("Even(%d, %d) = %q, %d; want %d", x.p, x.q, s, e, x.e)
		}
	}
}

// gapsOf follows the points around the circle, one step of 1 after the other.
func gapsOf(step, count, length int) ([]int, api.Errno) {
	here := map[int]bool{}
	for i := range count {
		here[i*step%length] = true
	}
	if len(here) < count {
		return nil, api.ErrNone
	}
	var l []int
	last := 0
	for x := 1; x <= length; x++ {
		if here[x%length] {
			l = append(l, x-last)
			last = x
		}
	}
	return l, api.OK
}

func TestGaps(t *testing.T) {
	for length := 1; length <= 24; length++ {
		for step := range length {
			for count := 1; count <= length; count++ {
				want, f := gapsOf(step, count, length)
				if l, e := rhythm.Gaps(step, count, length); e != f || !slices.Equal(l, want) {
					t.Fatalf("Gaps(%d, %d, %d) = %v, %d; want %v, %d", step, count, length, l, e, want, f)
				}
			}
		}
	}
	big := api.MaxCircle
	for _, x := range [][3]int{{big - 1, big, big}, {big - 1, 17, big}, {618, 400, big}, {997, 999, 999}, {0, 1, big}} {
		want, f := gapsOf(x[0], x[1], x[2])
		if l, e := rhythm.Gaps(x[0], x[1], x[2]); e != f || !slices.Equal(l, want) {
			t.Errorf("Gaps(%v) = %v, %d; want %v, %d", x, l, e, want, f)
		}
	}
}

func TestGapsRefused(t *testing.T) {
	big := api.MaxCircle
	for _, x := range []struct {
		step, count, length int
		e                   api.Errno
	}{{0, 1, 0, api.ErrArg}, {0, 1, -1, api.ErrArg}, {0, 1, big + 1, api.ErrArg}, {1, 1, 1, api.ErrArg}, {-1, 1, 5, api.ErrArg},
		{5, 1, 5, api.ErrArg}, {1, 0, 5, api.ErrArg}, {1, -1, 5, api.ErrArg}, {1, 6, 5, api.ErrArg}, {5, 6, 5, api.ErrArg},
		{0, 2, 5, api.ErrNone}, {4, 3, 8, api.ErrNone}, {2, 5, 8, api.ErrNone}, {500, 3, big, api.ErrNone},
		{math.MaxInt, math.MaxInt, math.MaxInt, api.ErrArg}, {math.MinInt, math.MinInt, math.MinInt, api.ErrArg},
		{1, math.MaxInt, 5, api.ErrArg}, {math.MaxInt, 1, 5, api.ErrArg}} {
		if l, e := rhythm.Gaps(x.step, x.count, x.length); e != x.e || len(l) != 0 {
			t.Errorf("Gaps(%d, %d, %d) = %v, %d; want %d", x.step, x.count, x.length, l, e, x.e)
		}
	}
}

// R5 and R6: a result is new memory, and the same for the same arguments.
func TestNewMemory(t *testing.T) {
	const s = "abaababa"
	fill := func(l []int) {
		for i := range l {
			l[i] = -1
		}
	}
	for name, call := range map[string]func() []int{
		"Periods":  func() []int { l, _ := rhythm.Periods(s); return l },
		"Local":    func() []int { l, _ := rhythm.Local(s); return l },
		"Critical": func() []int { l, _ := rhythm.Critical(s); return l },
		"Parts":    func() []int { l, _ := rhythm.Parts(s); return l },
		"Gaps":     func() []int { l, _ := rhythm.Gaps(3, 5, 8); return l },
	} {
		one, two := call(), call()
		want := slices.Clone(two)
		fill(one)
		if three := call(); !slices.Equal(two, want) || !slices.Equal(three, want) || len(want) == 0 {
			t.Errorf("%s: %v, %v; want %v", name, two, three, want)
		}
	}
	one, _ := rhythm.Runs(s)
	two, _ := rhythm.Runs(s)
	want := slices.Clone(two)
	clear(one)
	if !slices.Equal(two, want) || len(want) == 0 {
		t.Errorf("Runs: %v; want %v", two, want)
	}
}
