package ring_test

// The rules of the chapter, followed word by word: what rings and computations are held
// against. They share no code with the package.

import (
	"fmt"
	"iter"
	"math/rand"
	"slices"
	"testing"

	"bolster/api"
	"bolster/ring"
)

// chooser is a worker on a ring.
type chooser struct {
	number      int
	hasBegun    bool
	knows       int
	value       int
	isActive    bool
	waitsSecond bool
	noted       int
	way         []api.Note // on the way from it
}

// played is a ring by the chapter's rules.
type played struct {
	isPeterson bool
	choosers   []chooser
	sent       [4]int // how many messages of each kind were sent
}

func newPlayed(numbers []int, isPeterson bool) *played {
	p := &played{isPeterson: isPeterson}
	for _, number := range numbers {
		p.choosers = append(p.choosers, chooser{number: number, value: number, isActive: true})
	}
	return p
}

func (p *played) clone() *played {
	other := *p
	other.choosers = slices.Clone(p.choosers)
	for i := range other.choosers {
		other.choosers[i].way = slices.Clone(p.choosers[i].way)
	}
	return &other
}

// key is the same for the same states, with the same numbers of messages sent.
func (p *played) key() string { return fmt.Sprint(p.choosers, p.sent) }

func (p *played) send(c *chooser, kind, number int) {
	c.way = append(c.way, api.Note{Kind: kind, Number: number})
	p.sent[kind]++
}

func (p *played) isPosition(i int) bool { return i >= 0 && i < len(p.choosers) }

func (p *played) start(i int) api.Errno {
	if !p.isPosition(i) {
		return api.ErrArg
	}
	c := &p.choosers[i]
	if c.hasBegun {
		return api.ErrNone
	}
	c.hasBegun = true
	p.send(c, api.First, c.number)
	return api.OK
}

func (p *played) deliver(i int) api.Errno {
	if !p.isPosition(i) {
		return api.ErrArg
	}
	from := &p.choosers[i]
	if len(from.way) == 0 {
		return api.ErrNone
	}
	note := from.way[0]
	from.way = from.way[1:]
	j := i + 1
	if j == len(p.choosers) {
		j = 0
	}
	if p.isPeterson {
		if !p.choosers[j].hasBegun {
			p.start(j)
		}
		p.byPeterson(&p.choosers[j], note)
	} else {
		p.byChang(j, note)
	}
	return api.OK
}

func (p *played) byChang(j int, note api.Note) {
	c, x := &p.choosers[j], note.Number
	switch {
	case note.Kind == api.Leader && x == c.number:
	case note.Kind == api.Leader:
		c.knows = x
		p.send(c, api.Leader, x)
	case x > c.number:
		c.hasBegun = true
		p.send(c, api.First, x)
	case x < c.number && !c.hasBegun:
		p.start(j)
	case x < c.number:
	default:
		c.knows = c.number
		p.send(c, api.Leader, c.number)
	}
}

func (p *played) byPeterson(c *chooser, note api.Note) {
	x := note.Number
	switch {
	case note.Kind == api.Leader && c.knows > 0:
	case note.Kind == api.Leader:
		c.knows = x
		p.send(c, api.Leader, x)
	case !c.isActive:
		p.send(c, note.Kind, x)
	case c.waitsSecond != (note.Kind == api.Second):
		panic("an active worker received another kind than it waits for")
	case !c.waitsSecond && x == c.value:
		c.knows = x
		p.send(c, api.Leader, x)
	case !c.waitsSecond:
		c.noted, c.waitsSecond = x, true
		p.send(c, api.Second, x)
	case c.noted > c.value && c.noted > x:
		c.value, c.waitsSecond = c.noted, false
		p.send(c, api.First, c.value)
	default:
		c.isActive = false
	}
}

// areSame reports whether a ring is in the state of a played one, as far as it can be seen.
func areSame(t *testing.T, r *ring.Ring, p *played) {
	t.Helper()
	sent := 0
	for _, n := range p.sent {
		sent += n
	}
	ok := r.Sent() == sent
	for i, c := range p.choosers {
		ok = ok && r.Leader(i) == c.knows && slices.Equal(r.Flight(i), c.way)
	}
	if !ok {
		var flights [][]api.Note
		var leaders []int
		for i := range p.choosers {
			flights, leaders = append(flights, r.Flight(i)), append(leaders, r.Leader(i))
		}
		t.Fatalf("leaders %v, flights %v, sent %d; want %+v", leaders, flights, r.Sent(), *p)
	}
}

// both plays a ring and what it is held against.
type both struct {
	ring *ring.Ring
	*played
}

func newBoth(t *testing.T, numbers []int, isPeterson bool) both {
	t.Helper()
	r, e := ring.New(numbers, isPeterson)
	if e != api.OK || r == nil {
		t.Fatalf("New(%v, %t): %d", numbers, isPeterson, e)
	}
	b := both{r, newPlayed(numbers, isPeterson)}
	areSame(t, b.ring, b.played)
	return b
}

func (b both) clone() both { return both{b.ring.Clone(), b.played.clone()} }

// act starts a worker, or delivers the oldest message from a position.
func (b both) act(t *testing.T, starts bool, i int) api.Errno {
	t.Helper()
	name, e, want := "Deliver", api.OK, api.OK
	if starts {
		name, e, want = "Start", b.ring.Start(i), b.start(i)
	} else {
		e, want = b.ring.Deliver(i), b.deliver(i)
	}
	if e != want {
		t.Fatalf("%s(%d): %d; want %d; %+v", name, i, e, want, *b.played)
	}
	areSame(t, b.ring, b.played)
	return e
}

// permutations returns all permutations of n elements.
func permutations(n int) [][]int {
	if n == 0 {
		return [][]int{nil}
	}
	var all [][]int
	for _, l := range permutations(n - 1) {
		for i := range n {
			all = append(all, slices.Insert(slices.Clone(l), i, n-1))
		}
	}
	return all
}

// numbersOf yields numbers of rings of up to n workers, in any order, but with the greatest
// one first: what else there is comes from these by turning the ring.
func numbersOf(n int) iter.Seq[[]int] {
	return func(yield func([]int) bool) {
		spread := []int{1, 2, 77, 500, 999, api.MaxNumber}
		for size := 1; size <= n; size++ {
			for _, order := range permutations(size - 1) {
				numbers := []int{spread[len(spread)-1]}
				for _, rank := range order {
					numbers = append(numbers, spread[rank])
				}
				if !yield(numbers) {
					return
				}
			}
		}
	}
}

// randomNumbers returns numbers of a ring of n workers.
func randomNumbers(source *rand.Rand, n int) []int {
	most := api.MaxNumber
	if source.Intn(2) == 0 {
		most = n
	}
	numbers := source.Perm(most)[:n]
	for i := range numbers {
		numbers[i]++
	}
	return numbers
}

// states calls a function for each state of a ring to which any order of starts and
// deliveries leads. It returns how many there are.
func states(t *testing.T, b both, see func(both)) int {
	t.Helper()
	seen := map[string]bool{b.key(): true}
	for list := []both{b}; len(list) > 0; {
		last := list[len(list)-1]
		list = list[:len(list)-1]
		see(last)
		for i := range last.choosers {
			for _, starts := range []bool{true, false} {
				next := last.clone()
				next.act(t, starts, i)
				if key := next.key(); !seen[key] {
					seen[key] = true
					list = append(list, next)
				}
			}
		}
		areSame(t, last.ring, last.played) // whatever was done with its clones
	}
	return len(seen)
}

// isQuiet reports whether nothing is on the way, though somebody was started.
func (p *played) isQuiet() bool {
	hasBegun := false
	for _, c := range p.choosers {
		if len(c.way) > 0 {
			return false
		}
		hasBegun = hasBegun || c.hasBegun
	}
	return hasBegun
}

// greatest returns the greatest number.
func (p *played) greatest() int {
	n := 0
	for _, c := range p.choosers {
		n = max(n, c.number)
	}
	return n
}

// doer is a worker of a computation.
type doer struct {
	isWorking, isEngaged bool
	parent, owed         int
}

// computed is a computation by the chapter's rules.
type computed struct {
	doers []doer
	way   []api.Letter
}

func newComputed(n int) *computed {
	c := &computed{doers: make([]doer, n)}
	c.doers[0] = doer{isWorking: true, isEngaged: true}
	return c
}

func (c *computed) clone() *computed {
	return &computed{slices.Clone(c.doers), slices.Clone(c.way)}
}

func (c *computed) key() string { return fmt.Sprint(c.doers, c.way) }

func (c *computed) isWorker(i int) bool { return i >= 0 && i < len(c.doers) }

// settle lets workers leave that are idle and owed nothing, as soon as they are.
func (c *computed) settle() {
	for i := range c.doers {
		d := &c.doers[i]
		if i != 0 && d.isEngaged && !d.isWorking && d.owed == 0 {
			c.way = append(c.way, api.Letter{From: i, To: d.parent, Ack: true})
			*d = doer{}
		}
	}
}

// attempt makes a change in a copy, and keeps it unless too much is on the way then.
func (c *computed) attempt(change func(c *computed)) api.Errno {
	other := c.clone()
	change(other)
	other.settle()
	if len(other.way) > len(c.way) && len(other.way) > api.MaxFlight {
		return api.ErrFull
	}
	*c = *other
	return api.OK
}

func (c *computed) send(from, to int) api.Errno {
	if !c.isWorker(from) || !c.isWorker(to) {
		return api.ErrArg
	}
	if !c.doers[from].isWorking {
		return api.ErrNone
	}
	return c.attempt(func(c *computed) {
		c.way = append(c.way, api.Letter{From: from, To: to})
		c.doers[from].owed++
	})
}

func (c *computed) idle(i int) api.Errno {
	if !c.isWorker(i) {
		return api.ErrArg
	}
	if !c.doers[i].isWorking {
		return api.ErrNone
	}
	return c.attempt(func(c *computed) { c.doers[i].isWorking = false })
}

func (c *computed) deliver(k int) api.Errno {
	if k < 0 || k >= len(c.way) {
		return api.ErrArg
	}
	return c.attempt(func(c *computed) {
		letter := c.way[k]
		c.way = slices.Concat(c.way[:k], c.way[k+1:])
		to := &c.doers[letter.To]
		switch {
		case letter.Ack:
			to.owed--
		case to.isEngaged:
			to.isWorking = true
			c.way = append(c.way, api.Letter{From: letter.To, To: letter.From, Ack: true})
		default:
			*to = doer{isWorking: true, isEngaged: true, parent: letter.From}
		}
	})
}

// ended reports whether the computation is known to have ended.
func (c *computed) ended() bool { return !c.doers[0].isWorking && c.doers[0].owed == 0 }

// parentOf returns the parent of a worker, or -1.
func (c *computed) parentOf(i int) int {
	if i == 0 || !c.doers[i].isEngaged {
		return -1
	}
	return c.doers[i].parent
}

// areAlike reports whether a computation is in the state of another one, as far as it can be
// seen.
func areAlike(t *testing.T, w *ring.Work, c *computed) {
	t.Helper()
	ok := slices.Equal(w.Flight(), c.way) && w.Ended() == c.ended()
	for i, d := range c.doers {
		ok = ok && w.Working(i) == d.isWorking && w.Parent(i) == c.parentOf(i) && w.Owed(i) == d.owed
	}
	if !ok {
		var is []string
		for i := range c.doers {
			is = append(is, fmt.Sprint(w.Working(i), w.Parent(i), w.Owed(i)))
		}
		t.Fatalf("%v, on the way %v, ended %t; want %+v, ended %t", is, w.Flight(), w.Ended(), *c, c.ended())
	}
}

// works plays a computation and what it is held against.
type works struct {
	work *ring.Work
	*computed
}

func newWorks(t *testing.T, n int) works {
	t.Helper()
	w, e := ring.Begin(n)
	if e != api.OK || w == nil {
		t.Fatalf("Begin(%d): %d", n, e)
	}
	b := works{w, newComputed(n)}
	areAlike(t, b.work, b.computed)
	return b
}

func (b works) clone() works { return works{b.work.Clone(), b.computed.clone()} }

// doing is what is done with a computation.
type doing struct {
	name     string
	from, to int
}

// act does it.
func (b works) act(t *testing.T, d doing) api.Errno {
	t.Helper()
	var e, want api.Errno
	switch d.name {
	case "Send":
		e, want = b.work.Send(d.from, d.to), b.send(d.from, d.to)
	case "Idle":
		e, want = b.work.Idle(d.from), b.idle(d.from)
	default:
		e, want = b.work.Deliver(d.from), b.deliver(d.from)
	}
	if e != want {
		t.Fatalf("%v: %d; want %d; %+v", d, e, want, *b.computed)
	}
	areAlike(t, b.work, b.computed)
	return e
}

// doings returns all that can be done with a computation in some state, or is refused for
// another reason than its arguments.
func (c *computed) doings() []doing {
	var l []doing
	for i := range c.doers {
		l = append(l, doing{"Idle", i, 0})
		for j := range c.doers {
			l = append(l, doing{"Send", i, j})
		}
	}
	for k := range c.way {
		l = append(l, doing{"Deliver", k, 0})
	}
	return l
}

// small calls a function for each state of a computation of n workers to which any order of
// doings leads, if no task is sent while so many letters are on the way. It returns how many
// there are.
func small(t *testing.T, n, letters int, see func(works)) int {
	t.Helper()
	first := newWorks(t, n)
	seen := map[string]bool{first.key(): true}
	for list := []works{first}; len(list) > 0; {
		last := list[len(list)-1]
		list = list[:len(list)-1]
		see(last)
		for _, d := range last.doings() {
			if d.name == "Send" && len(last.way) >= letters {
				continue
			}
			next := last.clone()
			next.act(t, d)
			if key := next.key(); !seen[key] {
				seen[key] = true
				list = append(list, next)
			}
		}
		areAlike(t, last.work, last.computed) // whatever was done with its clones
	}
	return len(seen)
}

// smalls calls a function for the states of some computations of few workers.
func smalls(t *testing.T, see func(works)) {
	t.Helper()
	for n, letters := range []int{0, 6, 3, 2, 1} {
		if n > 0 {
			small(t, n, letters, see)
		}
	}
}

// long plays random computations, and calls a function in each state.
func long(t *testing.T, see func(works)) {
	t.Helper()
	source := rand.New(rand.NewSource(91))
	for round := range 200 {
		n := 1 + round%api.MaxRing
		b := newWorks(t, n)
		sends, idles, deliveries := 1+source.Intn(12), 1+source.Intn(4), 1+source.Intn(8)
		for range 1200 {
			see(b)
			if b.ended() && source.Intn(4) == 0 {
				b = newWorks(t, n)
			}
			switch at := source.Intn(sends + idles + deliveries); {
			case at < sends:
				b.act(t, doing{"Send", source.Intn(n+2) - 1, source.Intn(n+2) - 1})
			case at < sends+idles:
				b.act(t, doing{"Idle", source.Intn(n+2) - 1, 0})
			default:
				b.act(t, doing{"Deliver", source.Intn(len(b.way)+2) - 1, 0})
			}
		}
	}
}
