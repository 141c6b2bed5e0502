package shaft_test

import (
	"math"
	"math/rand"
	"reflect"
	"slices"
	"testing"

	"bolster/api"
	"bolster/shaft"
)

// twice returns a shaft of two equal jobs.
func twice(power int, j api.Job, orders ...api.Order) api.Shaft {
	return api.Shaft{Power: power, Jobs: []api.Job{j, j}, Orders: orders}
}

func TestExamples(t *testing.T) {
	s := twice(2, api.Job{To: 4, Length: 2, Power: 2})
	if l, e := shaft.First(s); e != api.OK || !slices.Equal(l, []int{0, 2}) {
		t.Errorf("First = %v, %d", l, e)
	}
	if l, end, e := shaft.Short(s); e != api.OK || end != 4 || !slices.Equal(l, []int{0, 2}) {
		t.Errorf("Short = %v, %d, %d", l, end, e)
	}
	s = twice(2, api.Job{To: 3, Length: 2, Power: 2})
	if a, b, e := shaft.Overfull(s); e != api.OK || a != 0 || b != 3 {
		t.Errorf("Overfull = %d, %d, %d", a, b, e)
	}
	if n, e := shaft.Needs(s, 0, 3); e != api.OK || n != 8 {
		t.Errorf("Needs = %d, %d", n, e)
	}
	s = twice(1, api.Job{To: 5, Length: 2, Power: 1}, api.Order{Before: 1, After: 0})
	if l, e := shaft.First(s); e != api.OK || !slices.Equal(l, []int{2, 0}) {
		t.Errorf("First = %v, %d", l, e)
	}
	s = api.Shaft{Power: 1, Jobs: []api.Job{{To: 2, Length: 2, Power: 1}, {To: 4, Length: 2, Power: 1}}, Orders: []api.Order{{Before: 1, After: 0}}}
	p, e := shaft.Refuse(s)
	if e != api.OK || !isProof(s, p) {
		t.Errorf("Refuse = %v, %d", p, e)
	}
	if ok, e := shaft.Proves(s, []api.Node{{Kind: api.Late}}); e != api.OK || !ok {
		t.Errorf("Proves = %t, %d", ok, e)
	}
}

// starts yields all starts whose numbers are about those at which jobs can begin.
func starts(s api.Shaft, yield func([]int)) {
	var extend func(l []int)
	extend = func(l []int) {
		if len(l) == len(s.Jobs) {
			yield(slices.Clone(l))
			return
		}
		j := s.Jobs[len(l)]
		for start := j.From - 1; start <= j.To-j.Length+1; start++ {
			extend(append(l, start))
		}
	}
	extend(nil)
}

func TestFits(t *testing.T) {
	fit := 0
	for s := range small {
		if len(s.Jobs) > 4 {
			continue
		}
		starts(s, func(l []int) {
			want := isSchedule(s, l)
			if ok, e := shaft.Fits(s, l); e != api.OK || ok != want {
				t.Fatalf("Fits(%v, %v) = %t, %d", s, l, ok, e)
			}
			if want {
				fit++
			}
		})
	}
	if fit < 1000 {
		t.Errorf("only %d schedules", fit)
	}
}

func TestFitsForm(t *testing.T) {
	s := twice(2, api.Job{To: 24, Length: 2, Power: 1})
	for _, l := range [][]int{nil, {}, {0}, {0, 0, 0}, {-1}, {0, 0, math.MaxInt}} {
		if ok, e := shaft.Fits(s, l); e != api.ErrForm || ok {
			t.Errorf("Fits(%v) = %t, %d", l, ok, e)
		}
	}
	for _, n := range []int{-1, 23, 24, math.MaxInt, math.MaxInt - 1, math.MinInt, math.MinInt + 1} {
		for _, l := range [][]int{{n, 0}, {0, n}, {n, n}} {
			if ok, e := shaft.Fits(s, l); e != api.OK || ok {
				t.Errorf("Fits(%v) = %t, %d", l, ok, e)
			}
		}
	}
	if ok, e := shaft.Fits(s, []int{22, 22}); e != api.OK || !ok {
		t.Errorf("Fits = %t, %d", ok, e)
	}
}

// A job may begin when another one ends, but not before, by power as by orders.
func TestFitsTouching(t *testing.T) {
	j := api.Job{To: 24, Length: 3, Power: 2}
	for _, s := range []api.Shaft{twice(3, j), twice(4, j, api.Order{Before: 0, After: 1})} {
		for start := range 9 {
			want := start >= 7 || start <= 1 && len(s.Orders) == 0
			if ok, e := shaft.Fits(s, []int{4, start}); e != api.OK || ok != want {
				t.Errorf("Fits(%v, %d) = %t, %d", s, start, ok, e)
			}
		}
	}
}

func TestFirst(t *testing.T) {
	done, refused := 0, 0
	for s := range shafts {
		want, wantE := firstOf(s), api.OK
		if want == nil {
			wantE = api.ErrNone
			refused++
		} else {
			done++
		}
		if l, e := shaft.First(s); e != wantE || !slices.Equal(l, want) {
			t.Fatalf("First(%v) = %v, %d; want %v", s, l, e, want)
		}
	}
	if done < 200 || refused < 200 {
		t.Errorf("%d shafts with a schedule, %d without", done, refused)
	}
}

func TestShort(t *testing.T) {
	later := 0
	check := func(s api.Shaft) {
		want, wantEnd := shortOf(s)
		wantE := api.OK
		if want == nil {
			wantE = api.ErrNone
		} else if !slices.Equal(want, firstOf(s)) {
			later++
		}
		l, end, e := shaft.Short(s)
		if e != wantE || end != wantEnd || !slices.Equal(l, want) {
			t.Fatalf("Short(%v) = %v, %d, %d; want %v, %d", s, l, end, e, want, wantEnd)
		}
	}
	for s := range small {
		check(s)
	}
	for s := range crowded {
		check(s)
	}
	for s := range wide {
		if len(s.Jobs) < 4 {
			check(s)
		}
	}
	if later < 20 {
		t.Errorf("First is not Short only %d times", later)
	}
}

// Six jobs that fit in many ways, and in none.
func TestShortOfManyJobs(t *testing.T) {
	for s := range full {
		l, end, e := shaft.Short(s)
		if first := firstOf(s); first == nil {
			if e != api.ErrNone || end != 0 || len(l) > 0 {
				t.Errorf("Short(%v) = %v, %d, %d", s, l, end, e)
			}
			continue
		}
		earlier := ending(s, end-1)
		if e != api.OK || endOf(s, l) != end || firstOf(earlier) != nil || !slices.Equal(l, firstOf(ending(s, end))) {
			t.Errorf("Short(%v) = %v, %d, %d", s, l, end, e)
		}
	}
	s := api.Shaft{Power: 2, Jobs: slices.Repeat([]api.Job{{To: 24, Length: 7, Power: 1}}, 6)}
	if l, end, e := shaft.Short(s); e != api.OK || end != 21 || !slices.Equal(l, []int{0, 0, 7, 7, 14, 14}) {
		t.Errorf("Short = %v, %d, %d", l, end, e)
	}
}

// ending returns a shaft whose jobs end at a time or earlier.
func ending(s api.Shaft, end int) api.Shaft {
	s.Jobs = slices.Clone(s.Jobs)
	for i := range s.Jobs {
		s.Jobs[i].To = min(s.Jobs[i].To, end)
	}
	return s
}

func TestOverfull(t *testing.T) {
	overfull := 0
	for s := range shafts {
		wantA, wantB, wantE := overfullOf(s)
		a, b, e := shaft.Overfull(s)
		if e != wantE || a != wantA || b != wantB {
			t.Fatalf("Overfull(%v) = %d, %d, %d; want %d, %d", s, a, b, e, wantA, wantB)
		}
		if e == api.OK {
			overfull++
		}
	}
	if overfull < 100 {
		t.Errorf("only %d are overfull", overfull)
	}
}

func TestNeeds(t *testing.T) {
	for s := range shafts {
		for a := range api.MaxTime {
			for b := a + 1; b <= api.MaxTime; b++ {
				n, e := shaft.Needs(s, a, b)
				if e != api.OK || n != needsOf(s.Jobs, a, b) || n != leastOf(s.Jobs, a, b) {
					t.Fatalf("Needs(%v, %d, %d) = %d, %d", s, a, b, n, e)
				}
			}
		}
	}
}

// leastOf returns what jobs need in an interval at least, wherever they begin: all times
// are tried.
func leastOf(jobs []api.Job, a, b int) int {
	sum := 0
	for _, j := range jobs {
		least := j.Length
		for start := j.From; start+j.Length <= j.To; start++ {
			least = min(least, max(0, min(b, start+j.Length)-max(a, start)))
		}
		sum += j.Power * least
	}
	return sum
}

func TestNeedsArg(t *testing.T) {
	s := twice(1, api.Job{To: 24, Length: 24, Power: 20})
	for _, c := range [][2]int{{0, 0}, {5, 5}, {6, 5}, {-1, 5}, {0, 25}, {24, 24}, {24, 25}, {-1, 25}, {math.MinInt, 5}, {5, math.MaxInt}, {math.MaxInt, math.MinInt}, {5, 0}} {
		if n, e := shaft.Needs(s, c[0], c[1]); e != api.ErrArg || n != 0 {
			t.Errorf("Needs(%v) = %d, %d", c, n, e)
		}
	}
	if n, e := shaft.Needs(s, 0, 24); e != api.OK || n != 2*24*20 {
		t.Errorf("Needs = %d, %d", n, e)
	}
	if n, e := shaft.Needs(s, 23, 24); e != api.OK || n != 2*20 {
		t.Errorf("Needs = %d, %d", n, e)
	}
}

func TestRefuse(t *testing.T) {
	refused, long := 0, 0
	for s := range shafts {
		p, e := shaft.Refuse(s)
		if firstOf(s) != nil {
			if e != api.ErrNone || len(p) > 0 {
				t.Fatalf("Refuse(%v) = %v, %d", s, p, e)
			}
			continue
		}
		if e != api.OK || len(p) > api.MaxNodes || !isProof(s, p) {
			t.Fatalf("Refuse(%v) = %v, %d", s, p, e)
		}
		refused++
		if len(p) > 1 {
			long++
		}
	}
	if refused < 200 || long < 50 {
		t.Errorf("%d refused, %d by more than one node", refused, long)
	}
}

// Jobs that can begin at at most 4 times each are always refused, however hard it is.
func TestRefuseFourTimes(t *testing.T) {
	source := rand.New(rand.NewSource(73))
	longest := 0
	for range 4000 {
		k := kind{jobs: api.MaxJobs, power: api.MaxPower, time: 4 + source.Intn(6), length: 1 + source.Intn(2), places: 4, orders: source.Intn(8) / 5}
		s := random(source, k)
		for i := range s.Jobs {
			s.Jobs[i].Power = 7 + source.Intn(6)
		}
		p, e := shaft.Refuse(s)
		if e != api.ErrNone && (e != api.OK || len(p) > api.MaxNodes || !isProof(s, p)) {
			t.Fatalf("Refuse(%v) = %v, %d", s, p, e)
		}
		longest = max(longest, len(p))
	}
	if longest < 50 {
		t.Errorf("the longest proof has %d nodes", longest)
	}
}

// Orders in a ring are kept by no schedule.
func TestRing(t *testing.T) {
	for n := 2; n <= api.MaxJobs; n++ {
		s := api.Shaft{Power: api.MaxPower}
		for i := range n {
			s.Jobs = append(s.Jobs, api.Job{To: api.MaxTime, Length: 1, Power: 1})
			s.Orders = append(s.Orders, api.Order{Before: i, After: (i + 1) % n})
		}
		if p, e := shaft.Refuse(s); e != api.OK || !isProof(s, p) {
			t.Errorf("Refuse(%v) = %v, %d", s, p, e)
		}
		if l, e := shaft.First(s); e != api.ErrNone || len(l) > 0 {
			t.Errorf("First(%v) = %v, %d", s, l, e)
		}
		s.Orders = s.Orders[1:]
		var want []int
		for i := range n {
			want = append(want, (i+n-1)%n)
		}
		if l, e := shaft.First(s); e != api.OK || !slices.Equal(l, want) {
			t.Errorf("First(%v) = %v, %d; want %v", s, l, e, want)
		}
	}
}

// A job that needs more power than there is has no schedule, wherever it is.
func TestTooMuchPower(t *testing.T) {
	for length := 1; length <= 24; length++ {
		s := api.Shaft{Power: 1, Jobs: []api.Job{{To: 24, Length: 1, Power: 1}, {To: 24, Length: length, Power: 2}}}
		if p, e := shaft.Refuse(s); e != api.OK || !isProof(s, p) {
			t.Errorf("Refuse of length %d = %v, %d", length, p, e)
		}
		if l, end, e := shaft.Short(s); e != api.ErrNone || end != 0 || len(l) > 0 {
			t.Errorf("Short of length %d = %v, %d, %d", length, l, end, e)
		}
	}
}

// disturbed returns a proof with some fields of some nodes changed.
func disturbed(source *rand.Rand, proof []api.Node) []api.Node {
	p := slices.Clone(proof)
	for range 1 + source.Intn(2) {
		n := &p[source.Intn(len(p))]
		fields := []*int{&n.Kind, &n.Job, &n.A, &n.B, &n.Left, &n.Right}
		field := fields[source.Intn(len(fields))]
		switch source.Intn(4) {
		case 0:
			*field++
		case 1:
			*field--
		case 2:
			*field = []int{0, 1, 24, 25, len(p) - 1, len(p), -1, math.MaxInt, math.MinInt}[source.Intn(9)]
		default:
			*field = source.Intn(6)
		}
	}
	return p
}

func TestProves(t *testing.T) {
	source := rand.New(rand.NewSource(74))
	yes, no := 0, 0
	for s := range shafts {
		p, e := shaft.Refuse(s)
		if e != api.OK || len(p) > 500 {
			continue
		}
		for range 60 {
			q := disturbed(source, p)
			want := isProof(s, q)
			if ok, e := shaft.Proves(s, q); e != api.OK || ok != want {
				t.Fatalf("Proves(%v, %v) = %t, %d", s, q, ok, e)
			}
			if want {
				yes++
			} else {
				no++
			}
		}
	}
	if yes < 500 || no < 500 {
		t.Errorf("%d proofs, %d others", yes, no)
	}
}

// Two jobs that both need the shaft at the time 1, and an order that can be kept.
func TestProvesNodes(t *testing.T) {
	s := api.Shaft{Power: 3, Jobs: []api.Job{{To: 3, Length: 2, Power: 2}, {To: 4, Length: 2, Power: 2}, {To: 4, Length: 2, Power: 2}}, Orders: []api.Order{{Before: 0, After: 1}, {Before: 2, After: 1}, {Before: 1, After: 2}}}
	order := api.Node{Kind: api.Late, Job: 1}
	split := api.Node{Kind: api.Split, Job: 1, A: 1, Left: 1, Right: 2}
	other := api.Node{Kind: api.Late, Job: 2}
	full := api.Node{Kind: api.Energy, A: 1, B: 2}
	for _, c := range []struct {
		proof []api.Node
		want  bool
	}{
		{nil, false},
		{[]api.Node{}, false},
		{[]api.Node{{}}, false},
		{[]api.Node{full}, false},
		{[]api.Node{order}, false},
		{[]api.Node{split}, false},
		{[]api.Node{split, order}, false},
		{[]api.Node{split, order, other}, true},
		{[]api.Node{split, other, order}, false},
		{[]api.Node{split, full, other}, true},
		{[]api.Node{split, {Kind: api.Energy, A: 1, B: 3}, other}, false},
		{[]api.Node{split, {Kind: api.Energy, A: 2, B: 1}, other}, false},
		{[]api.Node{split, {Kind: api.Energy, A: 1, B: 1}, other}, false},
		{[]api.Node{split, {Kind: api.Energy, A: -1, B: 2}, other}, false},
		{[]api.Node{split, {Kind: api.Energy, A: 1, B: 2, Job: 1}, other}, false},
		{[]api.Node{split, {Kind: api.Energy, A: 1, B: 2, Left: 1}, other}, false},
		{[]api.Node{split, {Kind: api.Energy, A: 1, B: 2, Right: 2}, other}, false},
		{[]api.Node{split, {Kind: api.Energy, A: math.MinInt, B: math.MaxInt}, other}, false},
		{[]api.Node{split, {Kind: api.Late, Job: 1, A: 1}, other}, false},
		{[]api.Node{split, {Kind: api.Late, Job: 1, B: 1}, other}, false},
		{[]api.Node{split, {Kind: api.Late, Job: 1, Left: 2}, other}, false},
		{[]api.Node{split, {Kind: api.Late, Job: 1, Right: 2}, other}, false},
		{[]api.Node{split, {Kind: api.Late, Job: 3}, other}, false},
		{[]api.Node{split, {Kind: api.Late, Job: -1}, other}, false},
		{[]api.Node{split, {Kind: 4, Job: 1}, other}, false},
		{[]api.Node{split, {Kind: 0, Job: 1}, other}, false},
		{[]api.Node{{Kind: api.Split, Job: 1, A: 1, B: 1, Left: 1, Right: 2}, order, other}, false},
		{[]api.Node{{Kind: api.Split, Job: 3, A: 1, Left: 1, Right: 2}, order, other}, false},
		{[]api.Node{{Kind: api.Split, Job: -1, A: 1, Left: 1, Right: 2}, order, other}, false},
		{[]api.Node{{Kind: api.Split, Job: 1, A: 2, Left: 1, Right: 2}, order, other}, false},
		{[]api.Node{{Kind: api.Split, Job: 1, A: -1, Left: 1, Right: 2}, order, other}, false},
		{[]api.Node{{Kind: api.Split, Job: 1, A: 0, Left: 1, Right: 2}, order, other}, true},
		{[]api.Node{{Kind: api.Split, Job: 2, A: 1, Left: 1, Right: 2}, order, other}, false},
		{[]api.Node{{Kind: api.Split, Job: 1, A: 1, Left: 2, Right: 1}, other, order}, true},
		{[]api.Node{{Kind: api.Split, Job: 1, A: 1, Left: 1, Right: 1}, order}, false},
		{[]api.Node{{Kind: api.Split, Job: 1, A: 1, Left: 0, Right: 2}, order, other}, false},
		{[]api.Node{{Kind: api.Split, Job: 1, A: 1, Left: 1, Right: 0}, order, other}, false},
		{[]api.Node{{Kind: api.Split, Job: 1, A: 1, Left: 1, Right: 3}, order, other}, false},
		{[]api.Node{{Kind: api.Split, Job: 1, A: 1, Left: -1, Right: 2}, order, other}, false},
		{[]api.Node{{Kind: api.Split, Job: 1, A: 1, Left: 1, Right: math.MaxInt}, order, other}, false},
		// A node leads to greater numbers alone.
		{[]api.Node{{Kind: api.Split, Job: 1, A: 1, Left: 2, Right: 4}, order, {Kind: api.Split, Job: 1, A: 0, Left: 1, Right: 3}, order, other}, false},
		{[]api.Node{{Kind: api.Split, Job: 1, A: 1, Left: 2, Right: 4}, order, {Kind: api.Split, Job: 1, A: 0, Left: 3, Right: 1}, order, other}, false},
		{[]api.Node{{Kind: api.Split, Job: 1, A: 1, Left: 1, Right: 2}, {Kind: api.Split, Job: 1, A: 0, Left: 1, Right: 3}, other, order}, false},
		// What is not reached may be anything.
		{[]api.Node{{Kind: api.Split, Job: 1, A: 1, Left: 2, Right: 4}, {Kind: -1}, order, {Kind: 1, Left: 1, Right: 1}, other, {Job: -5}}, true},
		// A node after a split of another job, whose times are then as they were.
		{[]api.Node{{Kind: api.Split, Job: 0, A: 0, Left: 1, Right: 2}, split, {Kind: api.Split, Job: 1, A: 1, Left: 3, Right: 4}, order, other}, false},
		{[]api.Node{{Kind: api.Split, Job: 0, A: 0, Left: 1, Right: 2}, {Kind: api.Split, Job: 1, A: 1, Left: 3, Right: 4},
			{Kind: api.Split, Job: 1, A: 1, Left: 5, Right: 6}, order, other, order, other}, true},
		{[]api.Node{{Kind: api.Split, Job: 0, A: 0, Left: 1, Right: 2}, {Kind: api.Split, Job: 1, A: 1, Left: 3, Right: 4},
			{Kind: api.Split, Job: 1, A: 1, Left: 3, Right: 4}, order, other}, false},
		// The times of a job are narrower after a split of it.
		{[]api.Node{{Kind: api.Split, Job: 1, A: 1, Left: 1, Right: 4}, {Kind: api.Split, Job: 1, A: 0, Left: 2, Right: 3}, order, order, other}, true},
		{[]api.Node{{Kind: api.Split, Job: 1, A: 1, Left: 1, Right: 4}, {Kind: api.Split, Job: 1, A: 1, Left: 2, Right: 3}, order, order, other}, false},
		{[]api.Node{{Kind: api.Split, Job: 1, A: 0, Left: 1, Right: 2}, order, {Kind: api.Split, Job: 1, A: 1, Left: 3, Right: 4}, order, other}, true},
		{[]api.Node{{Kind: api.Split, Job: 1, A: 0, Left: 1, Right: 2}, order, {Kind: api.Split, Job: 1, A: 0, Left: 3, Right: 4}, order, other}, false},
	} {
		if ok, e := shaft.Proves(s, c.proof); e != api.OK || ok != c.want || isProof(s, c.proof) != c.want {
			t.Errorf("Proves(%v) = %t, %d; want %t, and by the definition %t", c.proof, ok, e, c.want, isProof(s, c.proof))
		}
	}
}

func TestProvesLong(t *testing.T) {
	s := twice(2, api.Job{To: 3, Length: 2, Power: 2})
	p := make([]api.Node, api.MaxNodes)
	p[0] = api.Node{Kind: api.Energy, B: 3}
	if ok, e := shaft.Proves(s, p); e != api.OK || !ok {
		t.Errorf("Proves of %d nodes = %t, %d", len(p), ok, e)
	}
	p = append(p, api.Node{})
	if ok, e := shaft.Proves(s, p); e != api.ErrLong || ok {
		t.Errorf("Proves of %d nodes = %t, %d", len(p), ok, e)
	}
	// As deep as nodes can lead, which the times of the jobs do not allow.
	for i := range p[:api.MaxNodes] {
		p[i] = api.Node{Kind: api.Split, Left: i + 1, Right: i + 2}
	}
	if ok, e := shaft.Proves(s, p[:api.MaxNodes]); e != api.OK || ok {
		t.Errorf("Proves of a chain = %t, %d", ok, e)
	}
}

func TestLoad(t *testing.T) {
	source := rand.New(rand.NewSource(75))
	for s := range shafts {
		for range 5 {
			var l, want []int
			for range s.Jobs {
				l = append(l, source.Intn(api.MaxTime+1))
			}
			for time := range api.MaxTime {
				want = append(want, loadOf(s, l, time))
			}
			if got, e := shaft.Load(s, l); e != api.OK || !slices.Equal(got, want) {
				t.Fatalf("Load(%v, %v) = %v, %d; want %v", s, l, got, e, want)
			}
		}
	}
}

func TestLoadForm(t *testing.T) {
	s := twice(1, api.Job{From: 3, To: 5, Length: 2, Power: 20})
	for _, l := range [][]int{nil, {}, {0}, {0, 0, 0}, {0, -1}, {-1, 0}, {25, 0}, {0, 25}, {math.MaxInt, 0}, {0, math.MinInt}, {math.MinInt, math.MaxInt}} {
		if got, e := shaft.Load(s, l); e != api.ErrForm || len(got) > 0 {
			t.Errorf("Load(%v) = %v, %d", l, got, e)
		}
	}
	// Neither the power nor the times of the jobs bound what Load is asked.
	want := make([]int, api.MaxTime)
	want[0], want[1], want[23] = 20, 20, 20
	if got, e := shaft.Load(s, []int{23, 0}); e != api.OK || !slices.Equal(got, want) {
		t.Errorf("Load = %v, %d", got, e)
	}
	if got, e := shaft.Load(s, []int{24, 24}); e != api.OK || !slices.Equal(got, make([]int, 24)) {
		t.Errorf("Load = %v, %d", got, e)
	}
}

// calls are the functions of a shaft; each one reports whether its result is the zero
// value. Other arguments are bad as named, so that ErrArg is seen to be first.
func calls() map[string]func(s api.Shaft) (bool, api.Errno) {
	long := make([]api.Node, api.MaxNodes+1)
	fits := func(starts []int) func(api.Shaft) (bool, api.Errno) {
		return func(s api.Shaft) (bool, api.Errno) { ok, e := shaft.Fits(s, starts); return !ok, e }
	}
	load := func(starts []int) func(api.Shaft) (bool, api.Errno) {
		return func(s api.Shaft) (bool, api.Errno) { l, e := shaft.Load(s, starts); return len(l) == 0, e }
	}
	proves := func(proof []api.Node) func(api.Shaft) (bool, api.Errno) {
		return func(s api.Shaft) (bool, api.Errno) { ok, e := shaft.Proves(s, proof); return !ok, e }
	}
	needs := func(a, b int) func(api.Shaft) (bool, api.Errno) {
		return func(s api.Shaft) (bool, api.Errno) { n, e := shaft.Needs(s, a, b); return n == 0, e }
	}
	return map[string]func(api.Shaft) (bool, api.Errno){
		"Fits":          fits([]int{0, 0}),
		"Fits, badly":   fits([]int{0, 0, 0, 0, 0, 0, 0, 0}),
		"First":         func(s api.Shaft) (bool, api.Errno) { l, e := shaft.First(s); return len(l) == 0, e },
		"Short":         func(s api.Shaft) (bool, api.Errno) { l, end, e := shaft.Short(s); return len(l) == 0 && end == 0, e },
		"Overfull":      func(s api.Shaft) (bool, api.Errno) { a, b, e := shaft.Overfull(s); return a == 0 && b == 0, e },
		"Needs":         needs(0, 3),
		"Needs, badly":  needs(3, 0),
		"Refuse":        func(s api.Shaft) (bool, api.Errno) { p, e := shaft.Refuse(s); return len(p) == 0, e },
		"Proves":        proves([]api.Node{{Kind: api.Energy, B: 3}}),
		"Proves, badly": proves(long),
		"Load":          load([]int{0, 0}),
		"Load, badly":   load([]int{-1}),
	}
}

// invalid returns shafts that are not valid, each for one reason.
func invalid() []api.Shaft {
	good := api.Job{To: 3, Length: 2, Power: 1}
	var l []api.Shaft
	for _, power := range []int{0, -1, api.MaxPower + 1, math.MaxInt, math.MinInt} {
		bad := good
		bad.Power = power
		l = append(l, twice(power, good), api.Shaft{Power: 1, Jobs: []api.Job{good, bad}})
	}
	for _, j := range []api.Job{{}, {Power: 1}, {To: 3, Power: 1}, {To: 3, Length: -1, Power: 1}, {To: 3, Length: 4, Power: 1}, {From: 2, To: 3, Length: 2, Power: 1},
		{From: -1, To: 3, Length: 2, Power: 1}, {To: 25, Length: 2, Power: 1}, {From: 23, To: 25, Length: 2, Power: 1}, {From: 3, To: 2, Length: 1, Power: 1},
		{To: -3, Length: 2, Power: 1}, {To: math.MinInt, Length: 1, Power: 1}, {From: math.MaxInt, To: math.MinInt, Length: 1, Power: 1},
		{From: math.MaxInt, To: 24, Length: 1, Power: 1}, {From: math.MinInt, To: 24, Length: 1, Power: 1}, {To: 24, Length: math.MaxInt, Power: 1},
		{From: 1, To: 24, Length: math.MaxInt, Power: 1}, {From: math.MaxInt, To: 24, Length: math.MaxInt, Power: 1}, {To: 24, Length: math.MinInt, Power: 1},
		{From: 24, To: 24, Length: math.MinInt, Power: 1}, {To: math.MaxInt, Length: math.MaxInt, Power: 1}, {From: 24, To: 24, Power: 1}} {
		l = append(l, api.Shaft{Power: 1, Jobs: []api.Job{good, j}}, api.Shaft{Power: 1, Jobs: []api.Job{j, good}})
	}
	for _, o := range []api.Order{{}, {Before: 1, After: 1}, {Before: 0, After: 2}, {Before: 2, After: 0}, {Before: -1, After: 0}, {Before: 0, After: -1},
		{Before: math.MaxInt, After: 0}, {Before: 0, After: math.MinInt}} {
		l = append(l, twice(1, good, api.Order{Before: 0, After: 1}, o))
	}
	return append(l, api.Shaft{}, api.Shaft{Power: 1}, api.Shaft{Power: 1, Orders: []api.Order{{Before: 0, After: 1}}},
		api.Shaft{Power: 20, Jobs: slices.Repeat([]api.Job{good}, api.MaxJobs+1)},
		twice(2, good, slices.Repeat([]api.Order{{Before: 0, After: 1}}, api.MaxOrders+1)...))
}

func TestInvalidShafts(t *testing.T) {
	for name, call := range calls() {
		for _, s := range invalid() {
			if zero, e := call(s); e != api.ErrArg || !zero {
				t.Errorf("%s(%v): %d, zero %t", name, s, e, zero)
			}
		}
	}
}

// Shafts at the limits are valid.
func TestLimits(t *testing.T) {
	for _, c := range []struct {
		s     api.Shaft
		first []int
		end   int
	}{
		{api.Shaft{Power: 1, Jobs: []api.Job{{To: 1, Length: 1, Power: 1}}}, []int{0}, 1},
		{api.Shaft{Power: 20, Jobs: []api.Job{{From: 23, To: 24, Length: 1, Power: 20}}}, []int{23}, 24},
		{api.Shaft{Power: 20, Jobs: []api.Job{{To: 24, Length: 24, Power: 20}}}, []int{0}, 24},
		{api.Shaft{Power: 20, Jobs: slices.Repeat([]api.Job{{To: 24, Length: 4, Power: 20}}, api.MaxJobs)}, []int{0, 4, 8, 12, 16, 20}, 24},
		{twice(2, api.Job{To: 24, Length: 12, Power: 1}, slices.Repeat([]api.Order{{Before: 1, After: 0}}, api.MaxOrders)...), []int{12, 0}, 24},
	} {
		if l, e := shaft.First(c.s); e != api.OK || !slices.Equal(l, c.first) {
			t.Errorf("First(%v) = %v, %d", c.s, l, e)
		}
		if l, end, e := shaft.Short(c.s); e != api.OK || end != c.end || !slices.Equal(l, c.first) {
			t.Errorf("Short(%v) = %v, %d, %d", c.s, l, end, e)
		}
		if p, e := shaft.Refuse(c.s); e != api.ErrNone || len(p) > 0 {
			t.Errorf("Refuse(%v) = %v, %d", c.s, p, e)
		}
	}
}

func TestMemory(t *testing.T) {
	for s := range full {
		s.Orders = []api.Order{{Before: 1, After: 2}}
		jobs, orders := slices.Clone(s.Jobs), slices.Clone(s.Orders)
		var results [2][]any
		for i := range results {
			first, firstE := shaft.First(s)
			short, end, _ := shaft.Short(s)
			proof, proofE := shaft.Refuse(s)
			if !slices.Equal(s.Jobs, jobs) || !slices.Equal(s.Orders, orders) {
				t.Fatalf("%v was changed from %v, %v", s, jobs, orders)
			}
			results[i] = []any{slices.Clone(first), slices.Clone(short), end, slices.Clone(proof), firstE, proofE}
			kept, keptFirst := slices.Clone(proof), slices.Clone(first)
			if firstE == api.OK {
				shaft.Fits(s, first)
				shaft.Load(s, first)
			} else {
				shaft.Proves(s, proof)
			}
			if !slices.Equal(proof, kept) || !slices.Equal(first, keptFirst) {
				t.Fatal("an argument was changed")
			}
			for _, l := range [][]int{first, short} {
				for k := range l {
					l[k] = -1
				}
			}
			clear(proof)
		}
		if !reflect.DeepEqual(results[0], results[1]) {
			t.Errorf("%v, then %v", results[0], results[1])
		}
	}
}
