package claim_test

// The definitions of the chapter, followed word by word: what the package's results
// are held against. They are slow, and share no code with it.

import (
	"math/rand"
	"slices"

	"bolster/api"
)

// A dispute as it is given to the functions.
type dispute struct {
	n       int
	attacks []api.Pair
}

// disputes yields all disputes of up to three claims, disputes of special kinds, and
// random ones.
func disputes(yield func(dispute) bool) {
	for n := 1; n <= 3; n++ {
		for choice := range 1 << (n * n) {
			if !yield(chosen(n, choice)) {
				return
			}
		}
	}
	for _, d := range special() {
		if !yield(d) {
			return
		}
	}
	random := rand.New(rand.NewSource(12))
	for i := range 6000 {
		if !yield(randomDispute(random, 3+i/kinds%6, random.Intn(16), i%kinds)) {
			return
		}
	}
	for i := range 4 * kinds {
		n := api.MaxClaims - i%3
		if !yield(randomDispute(random, n, api.MaxAttacks-random.Intn(2)*random.Intn(30), i%kinds)) {
			return
		}
	}
}

// chosen returns the dispute with the attacks that are bits of a number.
func chosen(n, choice int) dispute {
	d := dispute{n: n}
	for i := range n * n {
		if choice>>i&1 == 1 {
			d.attacks = append(d.attacks, api.Pair{A: i / n, B: i % n})
		}
	}
	return d
}

// special are disputes up to the limits.
func special() []dispute {
	const n = api.MaxClaims
	twice := dispute{n: n}
	for i := range api.MaxAttacks {
		twice.attacks = append(twice.attacks, api.Pair{A: i % 4, B: (i + 1) % 4})
	}
	l := []dispute{{n: n}, twice, crossed(n), crossed(n - 1)}
	for length := 1; length <= n; length++ {
		l = append(l, around(n, 0, length), around(n, n-length, length))
	}
	// Two rings of five that share a claim, and one of three behind them.
	l = append(l, joined(around(n, 0, 5), around(n, 4, 5)), joined(around(n, 0, 9), around(n, 9, 3)))
	// Rings of three with a claim that can be held only with one of another ring.
	l = append(l, joined(around(n, 0, 3), around(n, 3, 4), dispute{n, []api.Pair{{A: 3, B: 0}, {A: 4, B: 1}}}))
	return l
}

// crossed returns a dispute of claims that attack each other two and two.
func crossed(n int) dispute {
	d := dispute{n: n}
	for c := 0; c+1 < n; c += 2 {
		d.attacks = append(d.attacks, api.Pair{A: c, B: c + 1}, api.Pair{A: c + 1, B: c})
	}
	return d
}

// around returns a dispute whose attacks are a ring from a claim on.
func around(n, from, length int) dispute {
	d := dispute{n: n}
	for i := range length {
		d.attacks = append(d.attacks, api.Pair{A: from + i, B: from + (i+1)%length})
	}
	return d
}

// joined returns a dispute with the attacks of several.
func joined(l ...dispute) dispute {
	d := dispute{n: l[0].n}
	for _, other := range l {
		d.attacks = append(d.attacks, other.attacks...)
	}
	return d
}

// kinds is how many kinds of random disputes there are.
const kinds = 6

// randomDispute returns a dispute with any attacks (0), without rings (1), without
// rings of an odd number of attacks (2), with some attacks to and fro (3), with many
// claims that attack themselves (4), or with none that does (5).
func randomDispute(random *rand.Rand, n, count, kind int) dispute {
	d := dispute{n: n}
	names := random.Perm(n)
	for range count {
		a, b := random.Intn(n), random.Intn(n)
		if len(d.attacks) == count {
			break
		}
		switch {
		case kind == 1 && a >= b, kind == 2 && a%2 == b%2, (kind == 3 || kind == 5) && a == b:
			continue
		case kind == 4 && random.Intn(4) == 0:
			b = a
		}
		d.attacks = append(d.attacks, api.Pair{A: names[a], B: names[b]})
		if kind == 3 && len(d.attacks) < count && random.Intn(2) == 0 {
			d.attacks = append(d.attacks, api.Pair{A: names[b], B: names[a]})
		}
	}
	return d
}

// setsOf returns all sets of claims, in lexicographic order.
func (d dispute) setsOf() [][]int {
	var l [][]int
	var grow func(set []int, from int)
	grow = func(set []int, from int) {
		l = append(l, slices.Clone(set))
		for c := from; c < d.n; c++ {
			grow(append(set, c), c+1)
		}
	}
	grow(nil, 0)
	return l
}

// within reports whether each claim of a set is in another one.
func within(set, other []int) bool {
	for _, c := range set {
		if !slices.Contains(other, c) {
			return false
		}
	}
	return true
}

// attacksClaim reports whether one of the claims of a set attacks a claim.
func (d dispute) attacksClaim(set []int, claim int) bool {
	for _, c := range set {
		if slices.Contains(d.attacks, api.Pair{A: c, B: claim}) {
			return true
		}
	}
	return false
}

func (d dispute) isFree(set []int) bool {
	for _, c := range set {
		if d.attacksClaim(set, c) {
			return false
		}
	}
	return true
}

func (d dispute) isDefended(set []int, claim int) bool {
	for _, attack := range d.attacks {
		if attack.B == claim && !d.attacksClaim(set, attack.A) {
			return false
		}
	}
	return true
}

func (d dispute) defendedBy(set []int) []int {
	var l []int
	for c := range d.n {
		if d.isDefended(set, c) {
			l = append(l, c)
		}
	}
	return l
}

func (d dispute) isAdmissible(set []int) bool {
	return d.isFree(set) && within(set, d.defendedBy(set))
}

func (d dispute) isComplete(set []int) bool {
	return d.isAdmissible(set) && within(d.defendedBy(set), set)
}

func (d dispute) isStable(set []int) bool {
	for c := range d.n {
		if !slices.Contains(set, c) && !d.attacksClaim(set, c) {
			return false
		}
	}
	return d.isFree(set)
}

// settledBy returns the claims that are in a set or attacked by it.
func (d dispute) settledBy(set []int) []int {
	var l []int
	for c := range d.n {
		if slices.Contains(set, c) || d.attacksClaim(set, c) {
			l = append(l, c)
		}
	}
	return l
}

// answers are all that there is to know about the sets of a dispute.
type answers struct {
	admissible, complete, preferred, stable, semi [][]int
	granted, ideal                                []int
	steps                                         map[int]int
}

func (d dispute) answersOf() answers {
	var a answers
	for _, set := range d.setsOf() {
		if d.isAdmissible(set) {
			a.admissible = append(a.admissible, set)
		}
		if d.isComplete(set) {
			a.complete = append(a.complete, set)
		}
		if d.isStable(set) {
			a.stable = append(a.stable, set)
		}
	}
	for _, set := range a.admissible {
		contains := func(other []int) bool { return len(other) > len(set) && within(set, other) }
		if !slices.ContainsFunc(a.admissible, contains) {
			a.preferred = append(a.preferred, set)
		}
	}
	var settled [][]int
	for _, set := range a.complete {
		settled = append(settled, d.settledBy(set))
	}
	for i, set := range a.complete {
		more := func(other []int) bool { return len(other) > len(settled[i]) && within(settled[i], other) }
		if !slices.ContainsFunc(settled, more) {
			a.semi = append(a.semi, set)
		}
	}
	for _, set := range a.complete {
		if inAll(set, a.complete) {
			a.granted = set
		}
	}
	for _, set := range a.admissible {
		if inAll(set, a.preferred) && len(set) > len(a.ideal) {
			a.ideal = set
		}
	}
	a.steps = d.stepsOf()
	return a
}

// inAll reports whether a set is contained in each of some.
func inAll(set []int, sets [][]int) bool {
	for _, other := range sets {
		if !within(set, other) {
			return false
		}
	}
	return true
}

// stepsOf returns the least number of a step in whose set a claim is. After as many
// steps as there are claims nothing is added any more.
func (d dispute) stepsOf() map[int]int {
	steps := map[int]int{}
	var step []int
	for k := 1; k <= d.n; k++ {
		step = d.defendedBy(step)
		for _, c := range step {
			if steps[c] == 0 {
				steps[c] = k
			}
		}
	}
	return steps
}

// coreOf goes through all attacks that are possible.
func (d dispute) coreOf() []api.Pair {
	is := func(a, b int) bool { return slices.Contains(d.attacks, api.Pair{A: a, B: b}) }
	var l []api.Pair
	for a := range d.n {
		for b := range d.n {
			left := a != b && is(a, a) && (is(b, a) || is(b, b))
			if is(a, b) && !left {
				l = append(l, api.Pair{A: a, B: b})
			}
		}
	}
	return l
}

// ringsOf returns all rings, each from its least claim on.
func (d dispute) ringsOf() [][]int {
	targets := make([][]int, d.n)
	for a := range d.n {
		for b := range d.n {
			if slices.Contains(d.attacks, api.Pair{A: a, B: b}) {
				targets[a] = append(targets[a], b)
			}
		}
	}
	var l [][]int
	var walk func(way []int)
	walk = func(way []int) {
		for _, next := range targets[way[len(way)-1]] {
			if next == way[0] {
				l = append(l, slices.Clone(way))
			} else if next > way[0] && !slices.Contains(way, next) {
				walk(append(way, next))
			}
		}
	}
	for c := range d.n {
		walk([]int{c})
	}
	return l
}

// oddOf returns the first of the shortest rings of an odd number of attacks, if there
// is one.
func oddOf(rings [][]int) []int {
	var best []int
	for _, ring := range rings {
		if len(ring)%2 == 0 {
			continue
		}
		if best == nil || len(ring) < len(best) || len(ring) == len(best) && slices.Compare(ring, best) < 0 {
			best = ring
		}
	}
	return best
}
