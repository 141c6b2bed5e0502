package ring

import (
	"slices"

	"bolster/api"
)

// member is a worker of a ring, with the state of its rule.
type member interface {
	// base returns the worker.
	base() *worker
	// start lets the worker begin.
	start()
	// receive lets the worker receive a message.
	receive(note api.Note)
	// clone returns a member in the same state.
	clone() member
}

// worker is what a worker has by either rule.
type worker struct {
	begun  bool
	leader int        // the leader's number that it knows, or 0
	sent   int        // how many messages it sent
	flight []api.Note // those of them that are on the way, the oldest one first
}

func (w *worker) base() *worker { return w }

// send sends a message to the next worker.
func (w *worker) send(note api.Note) {
	w.flight = append(w.flight, note)
	w.sent++
}

// oldest takes the oldest message from the way, if there is one.
func (w *worker) oldest() (api.Note, bool) {
	if len(w.flight) == 0 {
		return api.Note{}, false
	}
	note := w.flight[0]
	w.flight = slices.Delete(w.flight, 0, 1)
	return note, true
}

// begin begins by sending First with a number.
func (w *worker) begin(number int) {
	w.begun = true
	w.send(api.Note{Kind: api.First, Number: number})
}

// learn takes a number for the leader's, and tells the next worker.
func (w *worker) learn(number int) {
	w.leader = number
	w.send(api.Note{Kind: api.Leader, Number: number})
}

// changState is a worker by the rule of Chang and Roberts.
type changState struct {
	worker
	number int
}

func (c *changState) start() { c.begin(c.number) }

func (c *changState) receive(note api.Note) {
	if note.Kind == api.Leader {
		if note.Number != c.number {
			c.learn(note.Number)
		}
		return
	}
	switch {
	case note.Number > c.number:
		c.begun = true // without its own number, which would not become leader
		c.send(note)
	case note.Number == c.number:
		c.learn(c.number)
	case !c.begun:
		c.start()
	}
}

func (c *changState) clone() member {
	other := *c
	other.flight = slices.Clone(c.flight)
	return &other
}

// petersonState is a worker by the rule of Peterson.
type petersonState struct {
	worker
	value   int
	noted   int // the number that came with First if it waits for Second, otherwise 0
	passive bool
}

func (p *petersonState) start() { p.begin(p.value) }

func (p *petersonState) receive(note api.Note) {
	if !p.begun {
		p.start()
	}
	if note.Kind == api.Leader {
		if p.leader == 0 {
			p.learn(note.Number)
		}
		return
	}
	do := p.next()
	do(note)
}

// next returns what the worker does with the next message but Leader. It follows from the
// state each time: if it were kept, that of a clone would still change the worker that was
// cloned.
func (p *petersonState) next() func(note api.Note) {
	switch {
	case p.passive:
		return p.send
	case p.noted > 0:
		return p.second
	}
	return p.first
}

// first receives First while the worker waits for it.
func (p *petersonState) first(note api.Note) {
	if note.Number == p.value {
		p.learn(note.Number)
		return
	}
	p.noted = note.Number
	p.send(api.Note{Kind: api.Second, Number: note.Number})
}

// second receives Second while the worker waits for it.
func (p *petersonState) second(note api.Note) {
	if p.noted <= p.value || p.noted <= note.Number {
		p.passive = true
		return
	}
	p.value, p.noted = p.noted, 0
	p.send(api.Note{Kind: api.First, Number: p.value})
}

func (p *petersonState) clone() member {
	other := *p
	other.flight = slices.Clone(p.flight)
	return &other
}
