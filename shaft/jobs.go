package shaft

import (
	"slices"

	"bolster/api"
)

// shaft is a shaft that is valid. No method changes it.
type shaft api.Shaft

// newShaft returns a shaft, or the error of one that is not valid.
func newShaft(s api.Shaft) (shaft, api.Errno) {
	if !isPower(s.Power) || len(s.Jobs) < 1 || len(s.Jobs) > api.MaxJobs || len(s.Orders) > api.MaxOrders {
		return shaft{}, api.ErrArg
	}
	for _, j := range s.Jobs {
		// From and Length are bounded first, so that their sum is exact.
		if !isPower(j.Power) || j.From < 0 || j.From > api.MaxTime || j.Length < 1 || j.Length > api.MaxTime ||
			j.From+j.Length > j.To || j.To > api.MaxTime {
			return shaft{}, api.ErrArg
		}
	}
	isJob := func(number int) bool { return number >= 0 && number < len(s.Jobs) }
	for _, o := range s.Orders {
		if !isJob(o.Before) || !isJob(o.After) || o.Before == o.After {
			return shaft{}, api.ErrArg
		}
	}
	return shaft(s), api.OK
}

func isPower(power int) bool { return power >= 1 && power <= api.MaxPower }

// latest returns the greatest time at which a job may begin.
func latest(j api.Job) int { return j.To - j.Length }

// until returns the shaft on which a job begins at a time or earlier.
func (s shaft) until(number, time int) shaft {
	s.Jobs = slices.Clone(s.Jobs)
	s.Jobs[number].To = time + s.Jobs[number].Length
	return s
}

// after returns the shaft on which a job begins later than at a time.
func (s shaft) after(number, time int) shaft {
	s.Jobs = slices.Clone(s.Jobs)
	s.Jobs[number].From = time + 1
	return s
}

// load returns the power that the jobs need at each time if they begin at the starts,
// none of which is below 0.
func (s shaft) load(starts []int) []int {
	load := make([]int, api.MaxTime)
	for number, j := range s.Jobs {
		for time := starts[number]; time < min(starts[number]+j.Length, api.MaxTime); time++ {
			load[time] += j.Power
		}
	}
	return load
}

// isInterval reports whether two times are an interval.
func isInterval(from, to int) bool { return from >= 0 && from < to && to <= api.MaxTime }

// intervals yields the intervals, by their beginnings and then by their ends.
func intervals(yield func(from, to int) bool) {
	for from := range api.MaxTime {
		for to := from + 1; to <= api.MaxTime; to++ {
			if !yield(from, to) {
				return
			}
		}
	}
}

// need returns what a job needs in an interval: no less than if it begins as early, or
// as late, as it may.
func need(j api.Job, from, to int) int {
	early, late := max(0, j.From+j.Length-from), max(0, to-latest(j))
	return j.Power * min(j.Length, to-from, early, late)
}

// needs returns what all jobs need in an interval.
func (s shaft) needs(from, to int) int {
	sum := 0
	for _, j := range s.Jobs {
		sum += need(j, from, to)
	}
	return sum
}

// isOverfull reports whether all jobs need more in an interval than there is.
func (s shaft) isOverfull(from, to int) bool { return s.needs(from, to) > s.Power*(to-from) }

// overfull returns the first overfull interval, and whether there is one.
func (s shaft) overfull() (from, to int, ok bool) {
	for from, to := range intervals {
		if s.isOverfull(from, to) {
			return from, to, true
		}
	}
	return 0, 0, false
}
