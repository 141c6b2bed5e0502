package ring_test

import (
	"math"
	"math/rand"
	"slices"
	"testing"

	"bolster/api"
	"bolster/ring"
)

// begin calls Begin with a number that is valid.
func begin(t *testing.T, n int) *ring.Work {
	t.Helper()
	w, e := ring.Begin(n)
	if e != api.OK || w == nil {
		t.Fatalf("Begin(%d): %d", n, e)
	}
	return w
}

// returns holds which errors calls return, in their order.
func returns(t *testing.T, want api.Errno, errors ...api.Errno) {
	t.Helper()
	for i, e := range errors {
		if e != want {
			t.Fatalf("call %d: %d; want %d", i, e, want)
		}
	}
}

// isSent holds what is on the way.
func isSent(t *testing.T, w *ring.Work, want ...api.Letter) {
	t.Helper()
	if l := w.Flight(); !slices.Equal(l, want) {
		t.Fatalf("Flight = %v; want %v", l, want)
	}
}

// is holds the state of a worker.
func is(t *testing.T, w *ring.Work, i int, isWorking bool, parent, owed int) {
	t.Helper()
	if w.Working(i) != isWorking || w.Parent(i) != parent || w.Owed(i) != owed {
		t.Fatalf("worker %d: %t, %d, %d; want %t, %d, %d", i, w.Working(i), w.Parent(i), w.Owed(i), isWorking, parent, owed)
	}
}

// The third example of the chapter.
func TestEnds(t *testing.T) {
	w := begin(t, 2)
	is(t, w, 0, true, -1, 0)
	is(t, w, 1, false, -1, 0)
	returns(t, api.OK, w.Send(0, 1), w.Idle(0))
	isSent(t, w, api.Letter{From: 0, To: 1})
	if is(t, w, 0, false, -1, 1); w.Ended() {
		t.Fatal("it ended at once")
	}
	returns(t, api.OK, w.Deliver(0))
	is(t, w, 1, true, 0, 0)
	isSent(t, w)
	returns(t, api.OK, w.Idle(1))
	is(t, w, 1, false, -1, 0)
	isSent(t, w, api.Letter{From: 1, To: 0, Ack: true})
	if is(t, w, 0, false, -1, 1); w.Ended() {
		t.Fatal("it ended too early")
	}
	returns(t, api.OK, w.Deliver(0))
	if is(t, w, 0, false, -1, 0); !w.Ended() {
		t.Fatal("it did not end")
	}
}

// The root alone: it can send tasks to itself, and work again.
func TestRootAlone(t *testing.T) {
	w := begin(t, 1)
	if w.Ended() {
		t.Fatal("it ended at once")
	}
	returns(t, api.OK, w.Send(0, 0), w.Idle(0))
	is(t, w, 0, false, -1, 1)
	returns(t, api.OK, w.Deliver(0))
	is(t, w, 0, true, -1, 1)
	isSent(t, w, api.Letter{Ack: true})
	returns(t, api.OK, w.Deliver(0))
	is(t, w, 0, true, -1, 0)
	returns(t, api.OK, w.Idle(0))
	if isSent(t, w); !w.Ended() {
		t.Fatal("it did not end")
	}
	returns(t, api.ErrNone, w.Idle(0), w.Send(0, 0))
	returns(t, api.ErrArg, w.Deliver(0), w.Send(0, 1))

	w = begin(t, 1)
	if returns(t, api.OK, w.Idle(0)); !w.Ended() {
		t.Fatal("it did not end")
	}
}

// A worker that is engaged acknowledges another task at once, and works; one that is owed
// something stays engaged though it is idle.
func TestEngaged(t *testing.T) {
	w := begin(t, 3)
	returns(t, api.OK, w.Send(0, 1), w.Deliver(0), w.Send(1, 2), w.Send(1, 1), w.Idle(1))
	is(t, w, 1, false, 0, 2)
	isSent(t, w, api.Letter{From: 1, To: 2}, api.Letter{From: 1, To: 1})
	returns(t, api.OK, w.Deliver(1)) // to itself: it works again
	is(t, w, 1, true, 0, 2)
	isSent(t, w, api.Letter{From: 1, To: 2}, api.Letter{From: 1, To: 1, Ack: true})
	returns(t, api.OK, w.Send(0, 2), w.Deliver(2)) // the later one of two tasks engages
	is(t, w, 2, true, 0, 0)
	returns(t, api.OK, w.Deliver(0)) // the earlier one is acknowledged
	is(t, w, 2, true, 0, 0)
	isSent(t, w, api.Letter{From: 1, To: 1, Ack: true}, api.Letter{From: 2, To: 1, Ack: true})
	returns(t, api.OK, w.Deliver(1), w.Idle(1))
	is(t, w, 1, false, 0, 1)
	returns(t, api.OK, w.Deliver(0)) // the last one that it is owed
	is(t, w, 1, false, -1, 0)
	isSent(t, w, api.Letter{From: 1, To: 0, Ack: true})
	is(t, w, 0, true, -1, 2)
	returns(t, api.OK, w.Idle(0), w.Deliver(0), w.Idle(2))
	if is(t, w, 0, false, -1, 1); w.Ended() {
		t.Fatal("it ended too early")
	}
	if returns(t, api.OK, w.Deliver(0)); !w.Ended() {
		t.Fatal("it did not end")
	}
}

// full returns a computation with MaxFlight tasks on the way: of the root, but one of worker
// 1, which is working, as is worker 2; worker 3 is not engaged.
func full(t *testing.T) *ring.Work {
	t.Helper()
	w := begin(t, 4)
	returns(t, api.OK, w.Send(0, 1), w.Deliver(0), w.Send(0, 2), w.Deliver(0))
	for range api.MaxFlight - 1 {
		returns(t, api.OK, w.Send(0, 1))
	}
	returns(t, api.OK, w.Send(1, 2))
	if n := len(w.Flight()); n != api.MaxFlight {
		t.Fatalf("%d are on the way", n)
	}
	return w
}

func TestFull(t *testing.T) {
	w := full(t)
	before := w.Flight()
	returns(t, api.ErrFull, w.Send(0, 1), w.Send(1, 1), w.Send(2, 0), w.Idle(2))
	returns(t, api.ErrNone, w.Send(3, 0), w.Idle(3))
	returns(t, api.ErrArg, w.Send(0, 4), w.Send(-1, 0), w.Idle(4), w.Deliver(api.MaxFlight))
	is(t, w, 0, true, -1, api.MaxFlight+1)
	is(t, w, 1, true, 0, 1)
	is(t, w, 2, true, 0, 0)
	isSent(t, w, before...)
	returns(t, api.OK, w.Idle(1), w.Idle(0)) // neither acknowledges anything
	is(t, w, 1, false, 0, 1)
	returns(t, api.ErrNone, w.Send(0, 1), w.Send(1, 0), w.Idle(0), w.Idle(1))
	isSent(t, w, before...)

	returns(t, api.OK, w.Deliver(api.MaxFlight-1)) // an acknowledgement takes its room
	isSent(t, w, append(before[:api.MaxFlight-1], api.Letter{From: 2, To: 1, Ack: true})...)
	returns(t, api.ErrFull, w.Send(2, 0))
	returns(t, api.OK, w.Deliver(api.MaxFlight-1)) // which makes another one, as 1 is idle
	isSent(t, w, append(before[:api.MaxFlight-1], api.Letter{From: 1, To: 0, Ack: true})...)
	is(t, w, 1, false, -1, 0)
	returns(t, api.OK, w.Deliver(api.MaxFlight-1), w.Idle(2)) // now there is room for one
	is(t, w, 2, false, -1, 0)
	isSent(t, w, append(before[:api.MaxFlight-1], api.Letter{From: 2, To: 0, Ack: true})...)

	w = full(t)
	returns(t, api.OK, w.Idle(0), w.Deliver(0), w.Deliver(0)) // two of 1 by acknowledgements
	if n := len(w.Flight()); n != api.MaxFlight {
		t.Errorf("%d are on the way", n)
	}
}

// All that may be on the way is of another worker than the root.
func TestFullOfOthers(t *testing.T) {
	w := begin(t, 2)
	returns(t, api.OK, w.Send(0, 1), w.Deliver(0))
	for range api.MaxFlight {
		returns(t, api.OK, w.Send(1, 0))
	}
	returns(t, api.OK, w.Idle(0), w.Idle(1))
	is(t, w, 0, false, -1, 1)
	is(t, w, 1, false, 0, api.MaxFlight)
	for range api.MaxFlight {
		returns(t, api.OK, w.Deliver(0))
	}
	returns(t, api.OK, w.Idle(0))
	for range api.MaxFlight {
		returns(t, api.OK, w.Deliver(0))
	}
	isSent(t, w, api.Letter{From: 1, To: 0, Ack: true})
	if returns(t, api.OK, w.Deliver(0)); !w.Ended() {
		t.Error("it did not end")
	}
}

// All kinds of computations, with workers and letters that there are and that there are not.
func TestWorks(t *testing.T) {
	fulls, ends := 0, 0
	long(t, func(b works) {
		if len(b.way) == api.MaxFlight {
			fulls++
		}
		if b.ended() {
			ends++
		}
		n := len(b.doers)
		for _, i := range []int{-1, n, math.MinInt, math.MaxInt} {
			is(t, b.work, i, false, -1, 0)
		}
	})
	if fulls < 1000 || ends < 1000 {
		t.Errorf("%d were full, %d had ended", fulls, ends)
	}
}

func TestBegin(t *testing.T) {
	for n := 1; n <= api.MaxRing; n++ {
		w := begin(t, n)
		for i := range n {
			is(t, w, i, i == 0, -1, 0)
		}
		is(t, w, n, false, -1, 0)
		if isSent(t, w); w.Ended() {
			t.Errorf("a computation of %d ended at once", n)
		}
		returns(t, api.OK, w.Send(0, n-1))
		returns(t, api.ErrArg, w.Send(0, n))
	}
	for _, n := range []int{0, -1, api.MaxRing + 1, math.MinInt, math.MaxInt} {
		if w, e := ring.Begin(n); w != nil || e != api.ErrArg {
			t.Errorf("Begin(%d): %d", n, e)
		}
	}
}

// Of several errors the one that comes first is returned, and nothing changes.
func TestRefusedDoings(t *testing.T) {
	b := newWorks(t, 3)
	b.act(t, doing{"Send", 0, 1})
	for _, i := range []int{-1, 3, math.MinInt, math.MaxInt} {
		for _, d := range []doing{{"Send", i, 0}, {"Send", 0, i}, {"Send", 1, i}, {"Send", i, i}, {"Idle", i, 0}, {"Deliver", i, 0}} {
			if e := b.act(t, d); e != api.ErrArg {
				t.Errorf("%v: %d", d, e)
			}
		}
	}
	for _, d := range []doing{{"Send", 1, 0}, {"Send", 2, 2}, {"Idle", 1, 0}, {"Idle", 2, 0}} {
		if e := b.act(t, d); e != api.ErrNone {
			t.Errorf("%v: %d", d, e)
		}
	}
	if e := b.act(t, doing{"Deliver", 1, 0}); e != api.ErrArg {
		t.Errorf("Deliver(1): %d", e)
	}
}

// Computations that neither Begin nor Clone returned.
func TestNoWork(t *testing.T) {
	begun := begin(t, 2)
	returns(t, api.OK, begun.Send(0, 1), begun.Send(0, 1), begun.Deliver(0))
	ended := begin(t, 1)
	returns(t, api.OK, ended.Idle(0))
	copied, copiedEnd := *begun, *ended
	for name, w := range map[string]*ring.Work{"nil": nil, "zero": {}, "copied": &copied, "ended": &copiedEnd} {
		for _, i := range []int{0, 1, -1, 10, math.MaxInt} {
			if s, l, d := w.Send(i, 0), w.Idle(i), w.Deliver(i); s != api.ErrState || l != api.ErrState || d != api.ErrState {
				t.Errorf("%s, %d: Send: %d, Idle: %d, Deliver: %d", name, i, s, l, d)
			}
			is(t, w, i, false, -1, 0)
		}
		if len(w.Flight()) > 0 || w.Ended() || w.Clone() != nil {
			t.Errorf("%s: Flight = %v, Ended = %t, Clone = %v", name, w.Flight(), w.Ended(), w.Clone())
		}
	}
	is(t, begun, 0, true, -1, 2)
	is(t, begun, 1, true, 0, 0)
	isSent(t, begun, api.Letter{From: 0, To: 1})
}

// What is written into results is not seen again.
func TestMemoryOfWorks(t *testing.T) {
	source := rand.New(rand.NewSource(96))
	b := newWorks(t, 4)
	for range 2000 {
		l := b.work.Flight()
		for i := range l {
			l[i] = api.Letter{From: 3, To: 3, Ack: true}
		}
		_ = append(l, api.Letter{From: 2})
		areAlike(t, b.work, b.computed)
		if b.ended() {
			b = newWorks(t, 4)
		}
		doings := b.doings()
		b.act(t, doings[source.Intn(len(doings))])
	}
}

// What is done with a clone does not change the computation, nor the other way round.
func TestClonesOfWorks(t *testing.T) {
	source := rand.New(rand.NewSource(97))
	for round := range 200 {
		list := []works{newWorks(t, 1+round%api.MaxRing)}
		for len(list) < 8 {
			b := list[source.Intn(len(list))]
			for range 1 + source.Intn(40) {
				doings := b.doings()
				b.act(t, doings[source.Intn(len(doings))])
			}
			list = append(list, b.clone())
			for _, b := range list {
				areAlike(t, b.work, b.computed)
			}
		}
	}
}
