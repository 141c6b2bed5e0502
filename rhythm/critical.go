package rhythm

import "bolster/api"

// Local returns the local periods.
func Local(s string) ([]int, api.Errno) {
	if e := check(s); e != api.OK {
		return nil, e
	}
	return localPeriods(s), api.OK
}

// Critical returns the critical positions.
func Critical(s string) ([]int, api.Errno) {
	if e := check(s); e != api.OK {
		return nil, e
	}
	least := leastPeriod(s)
	var critical []int
	for i, q := range localPeriods(s) {
		if q == least {
			critical = append(critical, i+1) // the first local period is that of position 1
		}
	}
	return critical, api.OK
}

// localPeriods returns the local periods at the positions from 1 on.
func localPeriods(s string) []int {
	var local []int
	for i := 1; i < len(s); i++ {
		q := 1
		for !repeats(s, i, q) {
			q++
		}
		local = append(local, q)
	}
	return local
}

// repeats reports whether the q letters before position i, as far as they
// exist, are those after it. (For q = len(s) there is nothing to compare.)
func repeats(s string, i, q int) bool {
	from, to := max(0, i-q), min(i, len(s)-q)
	if from >= to {
		return true
	}
	return s[from:to] == s[from+q:to+q]
}
