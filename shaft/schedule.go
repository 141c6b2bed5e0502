package shaft

import (
	"slices"
	"sort"

	"bolster/api"
)

// canBeDone reports whether there is a schedule.
//
// If there is one, lay the jobs in the order of its starts, each as early as those that
// are laid already allow. None begins later than in the schedule: those laid before it
// begin no later there than it does, and are done no later than there, so that at its own
// start there, and after it, they need no more power. So it is enough to lay the jobs in
// every order.
func (s shaft) canBeDone() bool {
	l := layout{shaft: s, ends: make([]int, len(s.Jobs))}
	return l.complete()
}

// layout is some of a shaft's jobs with times at which they are done.
type layout struct {
	shaft
	ends []int            // of the jobs that are laid; 0 of the others
	used [api.MaxTime]int // the power that those that are laid need at each time
}

// complete lays the other jobs, if they can be laid, and reports whether they are.
func (l *layout) complete() bool {
	starts := make([]int, len(l.Jobs))
	isComplete := true
	for number := range l.Jobs {
		if l.ends[number] > 0 {
			continue
		}
		isComplete = false
		start, ok := l.earliest(number)
		if !ok { // nor can it when more jobs are laid
			return false
		}
		starts[number] = start
	}
	for number, j := range l.Jobs {
		if l.ends[number] > 0 || !l.isNext(number) {
			continue
		}
		l.put(number, starts[number], j.Power)
		l.ends[number] = starts[number] + j.Length
		if l.complete() {
			return true
		}
		l.put(number, starts[number], -j.Power)
		l.ends[number] = 0
	}
	return isComplete
}

// isNext reports whether the jobs that must have ended before a job are laid.
func (l *layout) isNext(number int) bool {
	for _, o := range l.Orders {
		if o.After == number && l.ends[o.Before] == 0 {
			return false
		}
	}
	return true
}

// put adds some power at the times of a job that begins at a time.
func (l *layout) put(number, start, power int) {
	for time := start; time < start+l.Jobs[number].Length; time++ {
		l.used[time] += power
	}
}

// earliest returns the least time at which a job can begin after and beside those that
// are laid, and whether there is one.
func (l *layout) earliest(number int) (int, bool) {
	j := l.Jobs[number]
	start := j.From
	for _, o := range l.Orders {
		if o.After == number {
			start = max(start, l.ends[o.Before])
		}
	}
	for time := start; time < start+j.Length && start <= latest(j); time++ {
		if l.used[time]+j.Power > l.Power {
			start = time + 1
		}
	}
	return start, start <= latest(j)
}

// first returns the least schedule of a shaft that has one.
func (s shaft) first() []int {
	var starts []int
	for number, j := range s.Jobs {
		start := j.From + sort.Search(latest(j)-j.From, func(i int) bool {
			return s.until(number, j.From+i).canBeDone()
		})
		starts = append(starts, start)
		s = s.until(number, start)
	}
	return starts
}

// leastEnd returns the least end of a schedule of a shaft that has one.
func (s shaft) leastEnd() int {
	return sort.Search(api.MaxTime, func(end int) bool { return s.endingBy(end).canBeDone() })
}

// endingBy returns the shaft whose jobs end at a time or earlier. It is not valid if one
// of them cannot, but then it has no schedule either.
func (s shaft) endingBy(time int) shaft {
	s.Jobs = slices.Clone(s.Jobs)
	for number := range s.Jobs {
		s.Jobs[number].To = min(s.Jobs[number].To, time)
	}
	return s
}
