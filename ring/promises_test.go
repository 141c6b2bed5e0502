package ring_test

import (
	"math/bits"
	"math/rand"
	"slices"
	"testing"

	"bolster/api"
)

// knows holds that nobody knows another leader than the greatest number, and everybody knows
// that one as soon as nothing is on the way.
func knows(t *testing.T, b both) {
	t.Helper()
	for i := range b.choosers {
		leader := b.ring.Leader(i)
		if leader != b.greatest() && (leader != 0 || b.isQuiet()) {
			t.Fatalf("Leader(%d) = %d; %+v", i, leader, *b.played)
		}
	}
}

// mostFirst returns how many messages First and Second there may be.
func mostFirst(n int, isPeterson bool) int {
	if isPeterson {
		return 2 * n * bits.Len(uint(n)) // the length is l + 1
	}
	return n * (n + 1) / 2
}

// few holds that no more messages were sent than there may be.
func few(t *testing.T, b both) {
	t.Helper()
	n := len(b.choosers)
	firsts := b.sent[api.First] + b.sent[api.Second]
	if firsts > mostFirst(n, b.isPeterson) || b.sent[api.Leader] > n || b.ring.Sent() != firsts+b.sent[api.Leader] {
		t.Fatalf("%v were sent; Sent = %d; %+v", b.sent, b.ring.Sent(), *b.played)
	}
	if b.isQuiet() && b.sent[api.Leader] != n {
		t.Fatalf("%v were sent at the end; %+v", b.sent, *b.played)
	}
}

// elections plays random rings to their ends, by one rule or the other, and calls a function
// in each state.
func elections(t *testing.T, isPeterson bool, see func(both)) {
	t.Helper()
	source := rand.New(rand.NewSource(92))
	for round := range 2000 {
		n := 1 + round%api.MaxRing
		b := newBoth(t, randomNumbers(source, n), isPeterson)
		startsOf := 2 + source.Intn(12) // one start among so many deliveries
		favourite := source.Intn(n)
		b.act(t, true, source.Intn(n))
		for !b.isQuiet() {
			see(b)
			i := source.Intn(n)
			if round%3 == 0 && i != favourite { // what the favourite sent arrives late
				b.act(t, false, i)
			}
			b.act(t, source.Intn(startsOf) == 0, source.Intn(n))
		}
		see(b)
	}
}

// D1: everybody knows the same leader in the end, the greatest number, and no worker ever
// knows another one; all orders of starts and deliveries are tried on small rings.
func TestD1Leader(t *testing.T) {
	for _, isPeterson := range []bool{false, true} {
		quiet, all := 0, 0
		see := func(b both) {
			knows(t, b)
			if b.isQuiet() {
				quiet++
			}
		}
		for numbers := range numbersOf(5) {
			all += states(t, newBoth(t, numbers, isPeterson), see)
		}
		if quiet < 20 || all < 1000 {
			t.Errorf("only %d states, %d at the end", all, quiet)
		}
		elections(t, isPeterson, see)
		if quiet < 2000 {
			t.Errorf("only %d ends", quiet)
		}
	}
}

// D2: at most n(n + 1)/2 messages First are sent by the rule of Chang and Roberts, and n
// messages Leader.
func TestD2FewByChang(t *testing.T) {
	for numbers := range numbersOf(5) {
		states(t, newBoth(t, numbers, false), func(b both) { few(t, b) })
	}
	elections(t, false, func(b both) { few(t, b) })
	for n := 1; n <= api.MaxRing; n++ { // falling numbers of which each goes as far as it can
		var numbers []int
		for i := range n {
			numbers = append(numbers, 3*(n-i))
		}
		b := newBoth(t, numbers, false)
		for i := range n {
			b.act(t, true, i)
		}
		finish(t, b)
		few(t, b)
		if b.ring.Sent() != n*(n+1)/2+n {
			t.Errorf("%v: Sent = %d", numbers, b.ring.Sent())
		}
	}
}

// finish delivers until nothing is on the way.
func finish(t *testing.T, b both) {
	t.Helper()
	for !b.isQuiet() {
		for i := range b.choosers {
			for b.act(t, false, i) == api.OK {
			}
		}
	}
}

// D3: at most 2n(l + 1) messages First and Second are sent by the rule of Peterson, l being
// the greatest number with 2^l at most n, and n messages Leader.
func TestD3FewByPeterson(t *testing.T) {
	for numbers := range numbersOf(5) {
		states(t, newBoth(t, numbers, true), func(b both) { few(t, b) })
	}
	most := map[int]int{}
	elections(t, true, func(b both) {
		few(t, b)
		n := len(b.choosers)
		most[n] = max(most[n], b.sent[api.First]+b.sent[api.Second])
	})
	for n := 1; n <= api.MaxRing; n++ {
		if most[n] < mostFirst(n, true)/2 {
			t.Errorf("at most %d messages First and Second among %d", most[n], n)
		}
	}
}

// D4: when a computation is known to have ended, nobody is working, no task is on the way,
// and nobody but the root is engaged; nothing can happen then.
func TestD4Safe(t *testing.T) {
	ended := 0
	see := func(b works) {
		if !b.work.Ended() {
			return
		}
		ended++
		isTask := func(l api.Letter) bool { return !l.Ack }
		if slices.ContainsFunc(b.work.Flight(), isTask) {
			t.Fatalf("on the way at the end: %v", b.work.Flight())
		}
		for i := range b.doers {
			if b.work.Working(i) || b.work.Parent(i) != -1 || b.work.Send(i, 0) != api.ErrNone || b.work.Idle(i) != api.ErrNone {
				t.Fatalf("worker %d at the end: %t, %d; %+v", i, b.work.Working(i), b.work.Parent(i), *b.computed)
			}
		}
	}
	smalls(t, see)
	long(t, see)
	if ended < 1000 {
		t.Errorf("ended %d times", ended)
	}
}

// isStill reports whether everybody is idle, and everything is delivered.
func isStill(b works) bool {
	for i := range b.doers {
		if b.work.Working(i) {
			return false
		}
	}
	return len(b.work.Flight()) == 0
}

// D5: if everybody becomes idle, and everything is delivered, the computation is known to
// have ended.
func TestD5Live(t *testing.T) {
	source := rand.New(rand.NewSource(93))
	ends := 0
	end := func(b works) {
		for b = b.clone(); !isStill(b); {
			for i := range b.doers {
				b.act(t, doing{"Idle", i, 0})
			}
			if n := len(b.way); n > 0 {
				b.act(t, doing{"Deliver", source.Intn(n), 0})
			}
		}
		if !b.work.Ended() {
			t.Fatalf("not known to have ended: %+v", *b.computed)
		}
		ends++
	}
	smalls(t, end)
	states := 0
	long(t, func(b works) {
		if states++; states%500 == 0 {
			end(b)
		}
	})
	if ends < 10000 {
		t.Errorf("ended %d times", ends)
	}
}

// isTree holds D6 for a computation.
func isTree(t *testing.T, b works) {
	t.Helper()
	isOwed := make([]int, len(b.doers))
	for _, letter := range b.work.Flight() {
		if letter.Ack {
			isOwed[letter.To]++
		} else {
			isOwed[letter.From]++
		}
	}
	for i := range b.doers {
		at := i
		for range b.doers {
			if parent := b.work.Parent(at); parent >= 0 {
				at = parent
			}
		}
		isEngaged := i == 0 || b.work.Parent(i) >= 0
		if isEngaged && at != 0 || !isEngaged && (b.work.Working(i) || b.work.Owed(i) > 0) {
			t.Fatalf("the parents of worker %d lead to %d: %+v", i, at, *b.computed)
		}
		if parent := b.work.Parent(i); parent >= 0 {
			isOwed[parent]++
		}
	}
	for i, n := range isOwed {
		if b.work.Owed(i) != n {
			t.Fatalf("Owed(%d) = %d; want %d; %+v", i, b.work.Owed(i), n, *b.computed)
		}
	}
}

// D6: the parents of engaged workers lead to the root, and the acknowledgements that a worker
// is owed are as many as there are tasks of it on the way, acknowledgements on the way to it,
// and workers whose parent it is.
func TestD6Tree(t *testing.T) {
	smalls(t, func(b works) { isTree(t, b) })
	deep := 0
	long(t, func(b works) {
		isTree(t, b)
		for i := range b.doers {
			if parent := b.work.Parent(i); parent > 0 && b.work.Parent(parent) > 0 {
				deep++
			}
		}
	})
	if deep < 1000 {
		t.Errorf("only %d deep trees", deep)
	}
}
