package shaft

// refuter searches for a proof.
type refuter struct {
	leaves int // how many it may still find
}

// refute returns a proof that a shaft without a schedule has none, or nil if there are
// too many leaves.
//
// Both sides of a split are refuted, but what refutes one of them may refute more: the
// whole shaft, and then the split is not needed, or the left side of a later time, and
// then less is left to the right one.
func (r *refuter) refute(s shaft) node {
	if n := s.leaf(); n != nil {
		r.leaves--
		return n
	}
	if r.leaves <= 0 {
		return nil
	}
	job, at, ok := s.cut()
	if !ok {
		job, at = s.halve()
	}
	left := r.refute(s.until(job, at))
	if left == nil || left.refutes(s) {
		return left
	}
	for left.refutes(s.until(job, at+1)) { // which at the latest time would be the shaft itself
		at++
	}
	right := r.refute(s.after(job, at))
	if right == nil || right.refutes(s) {
		return right
	}
	return split{job, at, left, right}
}

// leaf returns a node that refutes a shaft and leads to no others, or nil.
func (s shaft) leaf() node {
	for number := range s.Orders {
		if n := (late{number}); n.refutes(s) {
			return n
		}
	}
	if from, to, ok := s.overfull(); ok {
		return energy{from, to}
	}
	return nil
}

// cut returns a job and a time by which to split a shaft such that a leaf refutes one of
// the sides, with as many times as possible, and whether there are any. No leaf refutes
// the shaft itself.
func (s shaft) cut() (job, at int, ok bool) {
	most := 0
	for number, open := range s.spans() {
		j := s.Jobs[number]
		if early := min(open.first, latest(j)) - j.From; early > most {
			most, job, at = early, number, j.From+early-1
		}
		if late := latest(j) - max(open.last, j.From); late > most {
			most, job, at = late, number, latest(j)-late
		}
	}
	return job, at, most > 0
}

// span is times from the first one to the last one.
type span struct {
	first, last int
}

// spans returns the times at which each job may begin, without those at their beginning
// and at their end that a leaf refutes. No leaf refutes the shaft itself.
func (s shaft) spans() []span {
	var spans []span
	for _, j := range s.Jobs {
		spans = append(spans, span{j.From, latest(j)})
	}
	for _, o := range s.Orders {
		before, after := s.Jobs[o.Before], s.Jobs[o.After]
		spans[o.After].notBefore(before.From + before.Length)
		spans[o.Before].notAfter(latest(after) - before.Length)
	}
	for from, to := range intervals {
		spare := s.Power*(to-from) - s.needs(from, to)
		for number, j := range s.Jobs {
			long := 1 + (spare+need(j, from, to))/j.Power // so long a part of the job is too much
			switch {
			case long > min(j.Length, to-from): // and there is none
			case j.From+j.Length-from >= long:
				spans[number].notBefore(to - long + 1)
			case to-latest(j) >= long:
				spans[number].notAfter(from + long - j.Length - 1)
			}
		}
	}
	return spans
}

// notBefore removes the times before one.
func (s *span) notBefore(time int) { s.first = max(s.first, time) }

// notAfter removes the times after one.
func (s *span) notAfter(time int) { s.last = min(s.last, time) }

// halve returns a job and a time by which to split a shaft that has no schedule, and
// that no leaf refutes: a job that needs much and whose times are wide, in the middle or
// earlier, so that the left side has a time at which it is worked on for certain.
func (s shaft) halve() (job, at int) {
	most := 0
	for number, j := range s.Jobs {
		if weight := j.Power * j.Length * (j.To - j.From); j.From < latest(j) && weight > most {
			most, job, at = weight, number, min((j.From+latest(j))/2, j.From+j.Length-1)
		}
	}
	return job, at
}
