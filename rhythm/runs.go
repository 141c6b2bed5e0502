package rhythm

import (
	"cmp"
	"slices"

	"bolster/api"
)

// Runs returns the runs of a rhythm.
func Runs(s string) ([]api.Run, api.Errno) {
	if e := check(s); e != api.OK {
		return nil, e
	}
	var runs []api.Run
	for p := 1; 2*p <= len(s); p++ {
		runs = append(runs, runsOf(s, p)...)
	}
	slices.SortFunc(runs, func(a, b api.Run) int {
		return cmp.Or(cmp.Compare(a.From, b.From), cmp.Compare(a.To, b.To))
	})
	return runs, api.OK
}

// runsOf returns the runs of a rhythm whose least period is p.
func runsOf(s string, p int) []api.Run {
	var runs []api.Run
	for from := 0; from+2*p <= len(s); {
		to := from + p
		for to < len(s) && s[to] == s[to-p] {
			to++
		}
		if to-from >= 2*p && leastPeriod(s[from:to]) == p {
			runs = append(runs, api.Run{From: from, To: to, Period: p})
		}
		// The letters at to - p and to differ: no part with the period p has both.
		from = to - p + 1
	}
	return runs
}
