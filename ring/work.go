package ring

import (
	"slices"

	"bolster/api"
)

// root is the worker with whom a computation begins.
const root = 0

// none is the parent of a worker that has none.
const none = -1

// Work is a computation whose end is detected.
type Work struct {
	self   *Work // tells a computation that was returned from a copy of its fields
	hands  []hand
	flight []api.Letter // what is on the way, in the order in which it was sent
}

// hand is a worker of a computation.
type hand struct {
	isWorking bool
	parent    int // or none: not engaged, or the root
	owed      int
}

// newWork returns a computation of workers, with what is on the way.
func newWork(hands []hand, flight []api.Letter) *Work {
	w := &Work{hands: hands, flight: flight}
	w.self = w
	return w
}

// Begin returns a computation.
func Begin(n int) (*Work, api.Errno) {
	if n < 1 || n > api.MaxRing {
		return nil, api.ErrArg
	}
	hands := slices.Repeat([]hand{{parent: none}}, n)
	hands[root].isWorking = true
	return newWork(hands, nil), api.OK
}

// isThere reports whether the computation was returned by Begin or Clone.
func (w *Work) isThere() bool { return w != nil && w.self == w }

// has reports whether the computation is there, and has a worker.
func (w *Work) has(i int) bool { return w.isThere() && i >= 0 && i < len(w.hands) }

// isEngaged reports whether a worker is engaged.
func (w *Work) isEngaged(i int) bool { return i == root || w.hands[i].parent != none }

// isFull reports whether there is no room for a message on the way.
func (w *Work) isFull() bool { return len(w.flight) >= api.MaxFlight }

// Send sends a task.
func (w *Work) Send(from, to int) api.Errno {
	switch {
	case !w.isThere():
		return api.ErrState
	case !w.has(from) || !w.has(to):
		return api.ErrArg
	case !w.hands[from].isWorking:
		return api.ErrNone
	case w.isFull():
		return api.ErrFull
	}
	w.flight = append(w.flight, api.Letter{From: from, To: to})
	w.hands[from].owed++
	return api.OK
}

// Idle makes a worker idle.
func (w *Work) Idle(i int) api.Errno {
	switch {
	case !w.isThere():
		return api.ErrState
	case !w.has(i):
		return api.ErrArg
	case !w.hands[i].isWorking:
		return api.ErrNone
	case i != root && w.hands[i].owed == 0 && w.isFull():
		return api.ErrFull
	}
	w.hands[i].isWorking = false
	w.release(i)
	return api.OK
}

// Deliver delivers a letter.
func (w *Work) Deliver(k int) api.Errno {
	if !w.isThere() {
		return api.ErrState
	}
	if k < 0 || k >= len(w.flight) {
		return api.ErrArg
	}
	letter := w.flight[k]
	w.flight = slices.Delete(w.flight, k, k+1)
	if letter.Ack {
		w.hands[letter.To].owed--
		w.release(letter.To)
	} else {
		w.take(letter)
	}
	return api.OK
}

// take lets a worker take a task that is delivered to it.
func (w *Work) take(task api.Letter) {
	if w.isEngaged(task.To) {
		w.acknowledge(task.To, task.From)
	} else {
		w.hands[task.To].parent = task.From
	}
	w.hands[task.To].isWorking = true
}

// release ends the engagement of a worker, but the root, as soon as it is idle and owed
// nothing.
func (w *Work) release(i int) {
	h := &w.hands[i]
	if i == root || h.isWorking || h.owed > 0 {
		return
	}
	w.acknowledge(i, h.parent)
	h.parent = none
}

// acknowledge sends an acknowledgement.
func (w *Work) acknowledge(from, to int) {
	w.flight = append(w.flight, api.Letter{From: from, To: to, Ack: true})
}

// Flight returns the letters on the way.
func (w *Work) Flight() []api.Letter {
	if !w.isThere() {
		return nil
	}
	return slices.Clone(w.flight)
}

// Working reports whether a worker is working.
func (w *Work) Working(i int) bool { return w.has(i) && w.hands[i].isWorking }

// Parent returns the parent of a worker.
func (w *Work) Parent(i int) int {
	if !w.has(i) {
		return none
	}
	return w.hands[i].parent
}

// Owed returns how many acknowledgements a worker is owed.
func (w *Work) Owed(i int) int {
	if !w.has(i) {
		return 0
	}
	return w.hands[i].owed
}

// Ended reports whether the computation is known to have ended.
func (w *Work) Ended() bool {
	return w.isThere() && !w.hands[root].isWorking && w.hands[root].owed == 0
}

// Clone returns a computation in the same state.
func (w *Work) Clone() *Work {
	if !w.isThere() {
		return nil
	}
	return newWork(slices.Clone(w.hands), slices.Clone(w.flight))
}
