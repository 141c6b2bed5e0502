package ring_test

import (
	"math"
	"math/rand"
	"slices"
	"testing"

	"bolster/api"
	"bolster/ring"
)

// newRing calls New with numbers that are valid.
func newRing(t *testing.T, isPeterson bool, numbers ...int) *ring.Ring {
	t.Helper()
	r, e := ring.New(numbers, isPeterson)
	if e != api.OK || r == nil {
		t.Fatalf("New(%v, %t): %d", numbers, isPeterson, e)
	}
	return r
}

// isOn holds what is on the way from a position.
func isOn(t *testing.T, r *ring.Ring, i int, want ...api.Note) {
	t.Helper()
	if l := r.Flight(i); !slices.Equal(l, want) {
		t.Fatalf("Flight(%d) = %v; want %v", i, l, want)
	}
}

// deliver delivers from positions, one after the other.
func deliver(t *testing.T, r *ring.Ring, from ...int) {
	t.Helper()
	for _, i := range from {
		if e := r.Deliver(i); e != api.OK {
			t.Fatalf("Deliver(%d): %d", i, e)
		}
	}
}

// know holds which leaders the workers know.
func know(t *testing.T, r *ring.Ring, want ...int) {
	t.Helper()
	for i, leader := range want {
		if n := r.Leader(i); n != leader {
			t.Fatalf("Leader(%d) = %d; want %d", i, n, leader)
		}
	}
}

// The first example of the chapter.
func TestGoesAround(t *testing.T) {
	r := newRing(t, false, 3, 1, 2)
	if e := r.Start(0); e != api.OK {
		t.Fatalf("Start(0): %d", e)
	}
	for i := range 3 {
		isOn(t, r, i, api.Note{Kind: api.First, Number: 3})
		know(t, r, 0, 0, 0)
		deliver(t, r, i)
	}
	know(t, r, 3, 0, 0)
	isOn(t, r, 0, api.Note{Kind: api.Leader, Number: 3})
	deliver(t, r, 0, 1)
	know(t, r, 3, 3, 3)
	deliver(t, r, 2)
	for i := range 3 {
		isOn(t, r, i)
	}
	if r.Sent() != 6 {
		t.Errorf("Sent = %d", r.Sent())
	}
}

// The second example of the chapter, by either rule.
func TestAlone(t *testing.T) {
	for _, isPeterson := range []bool{false, true} {
		r := newRing(t, isPeterson, 7)
		if e := r.Start(0); e != api.OK {
			t.Fatalf("Start(0): %d", e)
		}
		isOn(t, r, 0, api.Note{Kind: api.First, Number: 7})
		deliver(t, r, 0)
		isOn(t, r, 0, api.Note{Kind: api.Leader, Number: 7})
		deliver(t, r, 0)
		isOn(t, r, 0)
		if know(t, r, 7); r.Sent() != 2 {
			t.Errorf("Sent = %d", r.Sent())
		}
	}
}

// By the rule of Chang and Roberts a number goes no farther than to a greater one.
func TestChang(t *testing.T) {
	r := newRing(t, false, 3, 1, 2)
	r.Start(1)
	isOn(t, r, 1, api.Note{Kind: api.First, Number: 1})
	deliver(t, r, 1)
	isOn(t, r, 2, api.Note{Kind: api.First, Number: 2})
	if e := r.Start(2); e != api.ErrNone {
		t.Errorf("Start(2): %d", e)
	}
	r.Start(0)
	deliver(t, r, 2) // to one that has begun
	isOn(t, r, 0, api.Note{Kind: api.First, Number: 3})
	if r.Sent() != 3 {
		t.Errorf("Sent = %d", r.Sent())
	}

	r = newRing(t, false, 3, 1, 2)
	r.Start(0)
	deliver(t, r, 0) // what is passed on by one that has not begun
	isOn(t, r, 1, api.Note{Kind: api.First, Number: 3})
	if e := r.Start(1); e != api.ErrNone {
		t.Errorf("Start(1): %d", e)
	}
	r.Start(2)
	deliver(t, r, 1)
	isOn(t, r, 2, api.Note{Kind: api.First, Number: 2}, api.Note{Kind: api.First, Number: 3})
	deliver(t, r, 2, 2)
	if know(t, r, 3, 0, 0); r.Sent() != 5 {
		t.Errorf("Sent = %d", r.Sent())
	}
}

// By the rule of Peterson the greatest number becomes the value of the worker after the one
// that has it, and that worker knows it first.
func TestPeterson(t *testing.T) {
	r := newRing(t, true, 1, 2)
	r.Start(0)
	deliver(t, r, 0) // the other one begins, and then notes 1
	isOn(t, r, 1, api.Note{Kind: api.First, Number: 2}, api.Note{Kind: api.Second, Number: 1})
	if e := r.Start(1); e != api.ErrNone {
		t.Errorf("Start(1): %d", e)
	}
	deliver(t, r, 1)
	isOn(t, r, 0, api.Note{Kind: api.Second, Number: 2})
	deliver(t, r, 1) // 2 is above 1 and above 1
	isOn(t, r, 0, api.Note{Kind: api.Second, Number: 2}, api.Note{Kind: api.First, Number: 2})
	deliver(t, r, 0, 0) // the other one is not active any more, and forwards
	isOn(t, r, 1, api.Note{Kind: api.First, Number: 2})
	know(t, r, 0, 0)
	deliver(t, r, 1)
	know(t, r, 2, 0)
	isOn(t, r, 0, api.Note{Kind: api.Leader, Number: 2})
	deliver(t, r, 0)
	know(t, r, 2, 2)
	deliver(t, r, 1)
	isOn(t, r, 0)
	isOn(t, r, 1)
	if r.Sent() != 8 {
		t.Errorf("Sent = %d", r.Sent())
	}
}

// A worker that is not active forwards Second, too.
func TestForwards(t *testing.T) {
	r := newRing(t, true, 5, 4, 3, 2)
	for i := range 4 {
		r.Start(i)
	}
	deliver(t, r, 0, 1, 2, 3)
	deliver(t, r, 0, 1, 2, 3)
	isOn(t, r, 0) // 2 is noted, below 5
	isOn(t, r, 1, api.Note{Kind: api.First, Number: 5})
	isOn(t, r, 2) // 4 is noted, below 5
	isOn(t, r, 3) // 3 is noted, below 4
	deliver(t, r, 1, 2, 3, 0)
	know(t, r, 0, 5, 0, 0)
	isOn(t, r, 1, api.Note{Kind: api.Leader, Number: 5})

	r = newRing(t, true, 6, 1, 5, 2, 4, 3)
	for i := range 6 {
		r.Start(i)
	}
	for range 2 {
		deliver(t, r, 0, 1, 2, 3, 4, 5)
	}
	for i, want := range []int{0, 6, 0, 5, 0, 4} { // the values of those that are active
		if want == 0 {
			isOn(t, r, i)
		} else {
			isOn(t, r, i, api.Note{Kind: api.First, Number: want})
		}
	}
	deliver(t, r, 1, 2) // 6 goes to the second active worker
	isOn(t, r, 3, api.Note{Kind: api.First, Number: 5}, api.Note{Kind: api.Second, Number: 6})
	deliver(t, r, 3, 3)
	isOn(t, r, 4, api.Note{Kind: api.First, Number: 5}, api.Note{Kind: api.Second, Number: 6})
}

// All greater rings, with positions that there are and that there are not.
func TestRings(t *testing.T) {
	source := rand.New(rand.NewSource(94))
	errors := map[api.Errno]int{}
	for round := range 600 {
		n := 1 + round%api.MaxRing
		b := newBoth(t, randomNumbers(source, n), round%20 < 10)
		if source.Intn(4) > 0 {
			b.act(t, true, source.Intn(n))
		}
		for range 10 * n {
			errors[b.act(t, source.Intn(10) == 0, source.Intn(n+4)-2)]++
			for _, i := range []int{-1, n, n + 1, math.MinInt, math.MaxInt} {
				if len(b.ring.Flight(i)) > 0 || b.ring.Leader(i) != 0 {
					t.Fatalf("of %d: Flight(%d) = %v, Leader = %d", n, i, b.ring.Flight(i), b.ring.Leader(i))
				}
			}
			if source.Intn(10) == 0 {
				b.ring = b.ring.Clone()
			}
		}
	}
	for _, e := range []api.Errno{api.OK, api.ErrArg, api.ErrNone} {
		if errors[e] < 1000 {
			t.Errorf("%d returned %d times", e, errors[e])
		}
	}
}

func TestNumbers(t *testing.T) {
	most := []int{1000, 1, 999, 2, 998, 3, 997, 4, 996, 5}
	for _, isPeterson := range []bool{false, true} {
		for _, numbers := range [][]int{{1}, {api.MaxNumber}, most, {2, 1}} {
			r := newRing(t, isPeterson, numbers...)
			for i := range numbers {
				isOn(t, r, i)
				if r.Leader(i) != 0 || r.Sent() != 0 || r.Deliver(i) != api.ErrNone {
					t.Errorf("of %v: Leader(%d) = %d, Sent = %d", numbers, i, r.Leader(i), r.Sent())
				}
			}
			if r.Start(len(numbers)) != api.ErrArg || r.Deliver(len(numbers)) != api.ErrArg {
				t.Errorf("%v has another position", numbers)
			}
		}
		for _, numbers := range [][]int{nil, {}, {0}, {-1}, {api.MaxNumber + 1}, {1, 1}, {3, 1, 2, 3}, {3, 1, 2, 1}, {1, 0}, {5, 1001, 4}, {math.MinInt}, {1, math.MaxInt},
			append(slices.Clone(most), 6), make([]int, 11), append(slices.Clone(most[:9]), 1000), make([]int, 1<<20)} {
			if r, e := ring.New(numbers, isPeterson); r != nil || e != api.ErrArg {
				t.Errorf("New of %d numbers: %d", len(numbers), e)
			}
		}
	}
}

func TestRefusedPositions(t *testing.T) {
	for _, isPeterson := range []bool{false, true} {
		b := newBoth(t, []int{4, 9, 2}, isPeterson)
		b.act(t, true, 1)
		for _, i := range []int{-1, 3, 4, math.MinInt, math.MaxInt} {
			if e := b.act(t, true, i); e != api.ErrArg {
				t.Errorf("Start(%d): %d", i, e)
			}
			if e := b.act(t, false, i); e != api.ErrArg {
				t.Errorf("Deliver(%d): %d", i, e)
			}
		}
		if e := b.act(t, true, 1); e != api.ErrNone {
			t.Errorf("Start(1): %d", e)
		}
		if e := b.act(t, false, 0); e != api.ErrNone {
			t.Errorf("Deliver(0): %d", e)
		}
	}
}

// Rings that neither New nor Clone returned.
func TestNoRing(t *testing.T) {
	begun := newRing(t, true, 3, 1, 2)
	begun.Start(0)
	deliver(t, begun, 0)
	copied := *begun
	for name, r := range map[string]*ring.Ring{"nil": nil, "zero": {}, "copied": &copied} {
		for _, i := range []int{0, 1, 2, -1, 10, math.MaxInt} {
			if s, d := r.Start(i), r.Deliver(i); s != api.ErrState || d != api.ErrState {
				t.Errorf("%s: Start(%d): %d, Deliver: %d", name, i, s, d)
			}
			if len(r.Flight(i)) > 0 || r.Leader(i) != 0 {
				t.Errorf("%s: Flight(%d) = %v, Leader = %d", name, i, r.Flight(i), r.Leader(i))
			}
		}
		if r.Sent() != 0 || r.Clone() != nil {
			t.Errorf("%s: Sent = %d, Clone = %v", name, r.Sent(), r.Clone())
		}
	}
	isOn(t, begun, 1, api.Note{Kind: api.First, Number: 1}, api.Note{Kind: api.Second, Number: 3})
	if begun.Sent() != 3 {
		t.Errorf("Sent = %d", begun.Sent())
	}
}

// Numbers are not kept, and what is written into results is not seen again.
func TestMemoryOfRings(t *testing.T) {
	for _, isPeterson := range []bool{false, true} {
		numbers := []int{3, 1, 2}
		kept := slices.Clone(numbers)
		b := newBoth(t, numbers, isPeterson)
		if !slices.Equal(numbers, kept) {
			t.Fatalf("%v were changed from %v", numbers, kept)
		}
		numbers[0], numbers[1], numbers[2] = 8, 9, 7
		for i := range 3 {
			b.act(t, true, i)
		}
		for !b.isQuiet() {
			for i := range 3 {
				l := b.ring.Flight(i)
				for at := range l {
					l[at] = api.Note{Kind: api.Leader, Number: 5}
				}
				_ = append(l, api.Note{Kind: api.First, Number: 6})
				areSame(t, b.ring, b.played)
				b.act(t, false, i)
			}
		}
		know(t, b.ring, 3, 3, 3)
	}
}

// What is done with a clone does not change the ring, nor the other way round; both go on.
func TestClonesOfRings(t *testing.T) {
	source := rand.New(rand.NewSource(95))
	for round := range 200 {
		n := 1 + round%api.MaxRing
		first := newBoth(t, randomNumbers(source, n), round%20 < 10)
		first.act(t, true, source.Intn(n))
		list := []both{first}
		for len(list) < 6 {
			b := list[source.Intn(len(list))]
			for range source.Intn(3 * n) {
				b.act(t, source.Intn(4) == 0, source.Intn(n))
			}
			list = append(list, b.clone())
			for _, b := range list {
				areSame(t, b.ring, b.played)
			}
		}
		for _, b := range list {
			finish(t, b)
			knows(t, b)
		}
	}
}
