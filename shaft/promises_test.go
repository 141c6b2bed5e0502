package shaft_test

import (
	"math/rand"
	"slices"
	"testing"

	"bolster/api"
	"bolster/shaft"
)

// fits calls Fits for starts that are well-formed.
func fits(t *testing.T, s api.Shaft, starts []int) bool {
	t.Helper()
	ok, e := shaft.Fits(s, starts)
	if e != api.OK {
		t.Fatalf("Fits(%v, %v): %d", s, starts, e)
	}
	return ok
}

// isDone calls First, and reports whether there is a schedule.
func isDone(t *testing.T, s api.Shaft) ([]int, bool) {
	t.Helper()
	l, e := shaft.First(s)
	if e != api.OK && e != api.ErrNone {
		t.Fatalf("First(%v): %d", s, e)
	}
	return l, e == api.OK
}

// S1: First and Short are schedules; no schedule is lexicographically less than First,
// and none ends before Short.
func TestS1First(t *testing.T) {
	compared := 0
	for s := range shafts {
		first, ok := isDone(t, s)
		short, end, e := shaft.Short(s)
		if ok != (e == api.OK) {
			t.Fatalf("Short(%v): %d, but First = %v", s, e, first)
		}
		if ok && (!fits(t, s, first) || !fits(t, s, short) || endOf(s, short) != end || slices.Compare(short, first) < 0) {
			t.Fatalf("First(%v) = %v, Short = %v, %d", s, first, short, end)
		}
		if len(s.Jobs) > 5 {
			continue
		}
		tried := 0
		for l := range schedules(s) {
			if !ok || slices.Compare(l, first) < 0 || endOf(s, l) < end || endOf(s, l) == end && slices.Compare(l, short) < 0 {
				t.Fatalf("%v: First = %v, Short = %v, %d; but %v", s, first, short, end, l)
			}
			if tried++; tried > 3000 {
				break
			}
		}
		compared += tried
	}
	if compared < 100000 {
		t.Errorf("only %d schedules", compared)
	}
}

// more yields shafts with a little more power, wider times or fewer orders.
func more(s api.Shaft, yield func(api.Shaft)) {
	if s.Power < api.MaxPower {
		m := s
		m.Power++
		yield(m)
	}
	for i, j := range s.Jobs {
		m := s
		if j.From > 0 {
			m.Jobs = slices.Clone(s.Jobs)
			m.Jobs[i].From--
			yield(m)
		}
		if j.To < api.MaxTime {
			m.Jobs = slices.Clone(s.Jobs)
			m.Jobs[i].To++
			yield(m)
		}
	}
	for i := range s.Orders {
		m := s
		m.Orders = slices.Delete(slices.Clone(s.Orders), i, i+1)
		yield(m)
	}
}

// S2: Proves accepts Refuse.
func TestS2Refuse(t *testing.T) {
	refused := 0
	for s := range shafts {
		p, e := shaft.Refuse(s)
		if _, ok := isDone(t, s); ok != (e == api.ErrNone) {
			t.Fatalf("Refuse(%v): %d", s, e)
		}
		if e != api.OK {
			continue
		}
		if ok, e := shaft.Proves(s, p); e != api.OK || !ok {
			t.Fatalf("Proves(%v, %v) = %t, %d", s, p, ok, e)
		}
		refused++
	}
	if refused < 500 {
		t.Errorf("only %d shafts were refused", refused)
	}
}

// S2: if Proves accepts any proof, there is no schedule: proofs for a shaft are tried for
// those that have a little more, and disturbed.
func TestS2Proves(t *testing.T) {
	source := rand.New(rand.NewSource(77))
	accepted, denied := 0, 0
	for s := range small {
		p, e := shaft.Refuse(s)
		if e != api.OK {
			continue
		}
		try := func(m api.Shaft, q []api.Node) {
			ok, e := shaft.Proves(m, q)
			if e != api.OK || ok && firstOf(m) != nil {
				t.Fatalf("Proves(%v, %v) = %t, %d; but %v is a schedule", m, q, ok, e, firstOf(m))
			}
			if ok {
				accepted++
			} else {
				denied++
			}
		}
		more(s, func(m api.Shaft) {
			try(m, p)
			for range 5 {
				try(m, disturbed(source, p))
			}
		})
	}
	if accepted < 500 || denied < 500 {
		t.Errorf("%d proofs were accepted, %d not", accepted, denied)
	}
}

// S2: no proof for any shaft is one for a shaft that has a schedule.
func TestS2Others(t *testing.T) {
	var done []api.Shaft
	var proofs [][]api.Node
	for s := range small {
		if p, e := shaft.Refuse(s); e == api.OK {
			proofs = append(proofs, p)
		} else {
			done = append(done, s)
		}
	}
	for _, s := range done {
		for _, p := range proofs {
			if ok, e := shaft.Proves(s, p); e != api.OK || ok {
				t.Fatalf("Proves(%v, %v) = %t, %d", s, p, ok, e)
			}
		}
	}
}

// S3: if an interval is overfull, there is no schedule.
func TestS3Overfull(t *testing.T) {
	overfull, others := 0, 0
	for s := range shafts {
		a, b, e := shaft.Overfull(s)
		_, ok := isDone(t, s)
		if e == api.OK && (ok || firstOf(s) != nil) {
			t.Fatalf("Overfull(%v) = %d, %d; but %v is a schedule", s, a, b, firstOf(s))
		}
		if e == api.OK {
			overfull++
		} else if !ok {
			others++
		}
	}
	if overfull < 300 || others < 100 {
		t.Errorf("%d are overfull, %d others have no schedule", overfull, others)
	}
}

// S4: more power, wider times or fewer orders never take a schedule away.
func TestS4More(t *testing.T) {
	won := 0
	for s := range shafts {
		l, ok := isDone(t, s)
		_, end, _ := shaft.Short(s)
		more(s, func(m api.Shaft) {
			first, isMoreDone := isDone(t, m)
			_, earlier, _ := shaft.Short(m)
			if ok && (!isMoreDone || !fits(t, m, l) || slices.Compare(first, l) > 0 || earlier > end) {
				t.Fatalf("First(%v) = %v, but First(%v) = %v", s, l, m, first)
			}
			if !ok && isMoreDone {
				won++
			}
		})
	}
	if won < 100 {
		t.Errorf("a schedule was won only %d times", won)
	}
}

// mirror returns a shaft with all times, and all orders, mirrored.
func mirror(s api.Shaft) api.Shaft {
	m := api.Shaft{Power: s.Power}
	for _, j := range s.Jobs {
		m.Jobs = append(m.Jobs, api.Job{From: api.MaxTime - j.To, To: api.MaxTime - j.From, Length: j.Length, Power: j.Power})
	}
	for _, o := range s.Orders {
		m.Orders = append(m.Orders, api.Order{Before: o.After, After: o.Before})
	}
	return m
}

// mirrorStarts returns the starts of the mirrored jobs.
func mirrorStarts(s api.Shaft, starts []int) []int {
	var l []int
	for i, j := range s.Jobs {
		l = append(l, api.MaxTime-starts[i]-j.Length)
	}
	return l
}

// S5: mirroring all times and all orders mirrors the schedules.
func TestS5Mirror(t *testing.T) {
	mirrored := 0
	for s := range shafts {
		m := mirror(s)
		l, ok := isDone(t, s)
		k, isMirrorDone := isDone(t, m)
		if ok != isMirrorDone || ok && (!fits(t, m, mirrorStarts(s, l)) || !fits(t, s, mirrorStarts(m, k))) {
			t.Fatalf("First(%v) = %v, First of the mirror = %v", s, l, k)
		}
		if len(s.Jobs) <= 3 {
			starts(s, func(l []int) {
				if fits(t, s, l) != fits(t, m, mirrorStarts(s, l)) {
					t.Fatalf("Fits(%v, %v) is not that of the mirror", s, l)
				}
				mirrored++
			})
		}
		for a := range api.MaxTime {
			for b := a + 1; b <= api.MaxTime; b++ {
				n, e := shaft.Needs(s, a, b)
				if o, f := shaft.Needs(m, api.MaxTime-b, api.MaxTime-a); e != api.OK || f != api.OK || n != o {
					t.Fatalf("Needs(%v, %d, %d) = %d, of the mirror %d", s, a, b, n, o)
				}
			}
		}
	}
	if mirrored < 10000 {
		t.Errorf("only %d starts", mirrored)
	}
}

// S6: Load of a schedule never exceeds the shaft's power, and its sum is the sum of
// Length times Power of all jobs.
func TestS6Load(t *testing.T) {
	loaded := 0
	for s := range shafts {
		work := 0
		for _, j := range s.Jobs {
			work += j.Length * j.Power
		}
		tried := 0
		for l := range schedules(s) {
			load, e := shaft.Load(s, l)
			sum := 0
			for _, power := range load {
				sum += power
			}
			if e != api.OK || len(load) != api.MaxTime || slices.Max(load) > s.Power || sum != work {
				t.Fatalf("Load(%v, %v) = %v, %d", s, l, load, e)
			}
			if tried++; tried == 50 {
				break
			}
		}
		loaded += tried
	}
	if loaded < 5000 {
		t.Errorf("only %d schedules", loaded)
	}
}
