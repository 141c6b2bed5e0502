package shaft_test

// The definitions of the chapter, followed word by word: what the package's results are
// held against. They try all starts, and share no code with it.

import (
	"iter"
	"math/rand"
	"slices"

	"bolster/api"
)

// isWorkedOn reports whether a job that begins at a time is worked on at another one.
func isWorkedOn(j api.Job, start, t int) bool { return start <= t && t < start+j.Length }

// loadOf returns the power that the jobs need at a time.
func loadOf(s api.Shaft, starts []int, t int) int {
	sum := 0
	for i, j := range s.Jobs {
		if isWorkedOn(j, starts[i], t) {
			sum += j.Power
		}
	}
	return sum
}

// isSchedule reports whether starts, none of them far from the times of the jobs, are a
// schedule.
func isSchedule(s api.Shaft, starts []int) bool {
	for i, j := range s.Jobs {
		if starts[i] < j.From || starts[i]+j.Length > j.To {
			return false
		}
	}
	for t := range api.MaxTime {
		if loadOf(s, starts, t) > s.Power {
			return false
		}
	}
	for _, o := range s.Orders {
		if starts[o.Before]+s.Jobs[o.Before].Length > starts[o.After] {
			return false
		}
	}
	return true
}

// part returns a shaft with its first n jobs alone, and the orders of these.
func part(s api.Shaft, n int) api.Shaft {
	p := api.Shaft{Power: s.Power, Jobs: s.Jobs[:n]}
	for _, o := range s.Orders {
		if o.Before < n && o.After < n {
			p.Orders = append(p.Orders, o)
		}
	}
	return p
}

// schedules yields all schedules of a shaft, in lexicographic order.
func schedules(s api.Shaft) iter.Seq[[]int] {
	return func(yield func([]int) bool) {
		var parts []api.Shaft
		for n := range len(s.Jobs) + 1 {
			parts = append(parts, part(s, n))
		}
		var extend func(starts []int) bool
		extend = func(starts []int) bool {
			n := len(starts)
			if !isSchedule(parts[n], starts) {
				return true
			}
			if n == len(s.Jobs) {
				return yield(slices.Clone(starts))
			}
			for start := s.Jobs[n].From; start+s.Jobs[n].Length <= s.Jobs[n].To; start++ {
				if !extend(append(starts, start)) {
					return false
				}
			}
			return true
		}
		extend(make([]int, 0, len(s.Jobs)))
	}
}

// firstOf returns the first schedule of a shaft, or nil.
func firstOf(s api.Shaft) []int {
	for starts := range schedules(s) {
		return starts
	}
	return nil
}

// endOf returns the end of a schedule.
func endOf(s api.Shaft, starts []int) int {
	end := 0
	for i, j := range s.Jobs {
		end = max(end, starts[i]+j.Length)
	}
	return end
}

// shortOf returns the first of the schedules with the least end, or nil, and that end.
func shortOf(s api.Shaft) ([]int, int) {
	var short []int
	least := 0
	for starts := range schedules(s) {
		if end := endOf(s, starts); short == nil || end < least {
			short, least = starts, end
		}
	}
	return short, least
}

// needOf returns what a job needs in an interval.
func needOf(j api.Job, a, b int) int {
	return j.Power * min(j.Length, b-a, max(0, j.From+j.Length-a), max(0, b-j.To+j.Length))
}

func needsOf(jobs []api.Job, a, b int) int {
	sum := 0
	for _, j := range jobs {
		sum += needOf(j, a, b)
	}
	return sum
}

// overfullOf returns the first overfull interval, if there is one.
func overfullOf(s api.Shaft) (int, int, api.Errno) {
	for a := range api.MaxTime {
		for b := a + 1; b <= api.MaxTime; b++ {
			if needsOf(s.Jobs, a, b) > s.Power*(b-a) {
				return a, b, api.OK
			}
		}
	}
	return 0, 0, api.ErrNone
}

// isProof reports whether nodes are a proof.
func isProof(s api.Shaft, proof []api.Node) bool {
	reached := map[int]bool{}
	var holds func(number int, jobs []api.Job) bool
	holds = func(number int, jobs []api.Job) bool {
		if number >= len(proof) || reached[number] {
			return false
		}
		reached[number] = true
		n := proof[number]
		switch n.Kind {
		case api.Energy:
			return n.Job == 0 && n.Left == 0 && n.Right == 0 && 0 <= n.A && n.A < n.B && n.B <= api.MaxTime &&
				needsOf(jobs, n.A, n.B) > s.Power*(n.B-n.A)
		case api.Late:
			if n.A != 0 || n.B != 0 || n.Left != 0 || n.Right != 0 || n.Job < 0 || n.Job >= len(s.Orders) {
				return false
			}
			before, after := jobs[s.Orders[n.Job].Before], jobs[s.Orders[n.Job].After]
			return before.From+before.Length > after.To-after.Length
		case api.Split:
			if n.B != 0 || n.Job < 0 || n.Job >= len(jobs) || n.Left <= number || n.Right <= number {
				return false
			}
			j := jobs[n.Job]
			if n.A < j.From || n.A >= j.To-j.Length {
				return false
			}
			left, right := slices.Clone(jobs), slices.Clone(jobs)
			left[n.Job].To = n.A + j.Length
			right[n.Job].From = n.A + 1
			return holds(n.Left, left) && holds(n.Right, right)
		}
		return false
	}
	return holds(0, s.Jobs)
}

// kind tells of what kind a random shaft is.
type kind struct {
	jobs, power, orders int
	time                int // when the jobs must have ended, at the latest
	length              int // of a job, at most
	places              int // times at which a job can begin, at most
}

// random returns a random shaft of a kind.
func random(source *rand.Rand, k kind) api.Shaft {
	s := api.Shaft{Power: k.power}
	for range k.jobs {
		j := api.Job{Length: 1 + source.Intn(min(k.length, k.time)), Power: 1 + source.Intn(k.power)}
		places := 1 + source.Intn(min(k.places, k.time-j.Length+1))
		j.From = source.Intn(k.time - j.Length - places + 2)
		j.To = j.From + j.Length + places - 1
		s.Jobs = append(s.Jobs, j)
	}
	for range k.orders {
		before, after := source.Intn(k.jobs), source.Intn(k.jobs)
		if before != after {
			s.Orders = append(s.Orders, api.Order{Before: before, After: after})
		}
	}
	return s
}

// small yields shafts of jobs that can begin at at most four times each.
func small(yield func(api.Shaft) bool) {
	source := rand.New(rand.NewSource(71))
	for i := range 600 {
		k := kind{jobs: 1 + i%api.MaxJobs, power: 1 + source.Intn(6), time: 4 + source.Intn(9), length: 1 + source.Intn(5), places: 4}
		if i%3 == 0 {
			k.orders = source.Intn(5)
		}
		if !yield(random(source, k)) {
			return
		}
	}
}

// wide yields shafts of few jobs that can begin at many times.
func wide(yield func(api.Shaft) bool) {
	source := rand.New(rand.NewSource(72))
	for i := range 300 {
		k := kind{jobs: 2 + i%3, power: 1 + source.Intn(api.MaxPower), time: api.MaxTime, length: 1 + source.Intn(16), places: api.MaxTime}
		if i%2 == 0 {
			k.orders = source.Intn(4)
		}
		if i%5 == 0 {
			k.time = 12
		}
		if !yield(random(source, k)) {
			return
		}
	}
}

// crowded yields shafts of a few jobs for which there is not much room.
func crowded(yield func(api.Shaft) bool) {
	source := rand.New(rand.NewSource(76))
	for i := range 900 {
		k := kind{jobs: 3 + i%3, power: 2 + source.Intn(3), time: 10 + source.Intn(4), length: 5, places: 7, orders: source.Intn(3)}
		if !yield(random(source, k)) {
			return
		}
	}
}

// full yields shafts of as many jobs as there may be, all of which have the whole time;
// some have a schedule, and others have none although no interval is overfull.
func full(yield func(api.Shaft) bool) {
	for _, c := range []struct {
		power   int // of each job
		lengths []int
	}{
		{11, []int{4, 4, 4, 4, 4, 4}}, {11, []int{4, 4, 4, 4, 4, 5}}, {11, []int{1, 2, 4, 5, 6, 7}}, {11, []int{11, 10, 1, 1, 1, 1}}, {11, []int{8, 8, 6, 1, 1, 1}},
		{7, []int{9, 9, 9, 7, 7, 7}}, {7, []int{8, 8, 8, 8, 8, 8}}, {7, []int{11, 11, 11, 5, 5, 5}}, {7, []int{9, 9, 9, 9, 9}}, {7, []int{12, 13, 12, 9, 2}},
		{20, []int{4, 4, 4, 4, 4, 4}}, {6, []int{17, 9, 8, 16, 16, 8}}, {6, []int{13, 13, 12, 12, 12, 12}}, {6, []int{12, 12, 12, 12, 12, 12}},
	} {
		s := api.Shaft{Power: api.MaxPower}
		for _, length := range c.lengths {
			s.Jobs = append(s.Jobs, api.Job{To: api.MaxTime, Length: length, Power: c.power})
		}
		if !yield(s) {
			return
		}
	}
}

// shafts yields shafts of many kinds and sizes.
func shafts(yield func(api.Shaft) bool) {
	for _, l := range []iter.Seq[api.Shaft]{small, wide, crowded, full} {
		for s := range l {
			if !yield(s) {
				return
			}
		}
	}
}
