package water_test

// The definitions of the chapter, followed word by word: what the package's
// results are held against. They are slow, and share no code with it.

import (
	"math/rand"
	"slices"

	"bolster/api"
)

// A stream is a river as it is given to the functions.
type stream struct {
	flow  []int
	gains [][]int
}

// small yields rivers of which each use can be tried.
func small(yield func(stream) bool) {
	for _, r := range some() {
		if !yield(r) {
			return
		}
	}
	random := rand.New(rand.NewSource(3))
	for i := range 3000 {
		// Few different gains make many uses of the same worth.
		if !yield(randomStream(random, 1+i%4, 4, 4, []int{2, 5, 30}[i%3])) {
			return
		}
	}
}

// large yields rivers up to the limits.
func large(yield func(stream) bool) {
	full := stream{slices.Repeat([]int{api.MaxFlow}, api.MaxPlaces), nil}
	for range api.MaxPlaces {
		full.gains = append(full.gains, slices.Repeat([]int{api.MaxGain}, api.MaxUnits))
	}
	spring := stream{make([]int, api.MaxPlaces), full.gains}
	spring.flow[0] = api.MaxFlow
	mouth := stream{make([]int, api.MaxPlaces), full.gains}
	mouth.flow[api.MaxPlaces-1] = api.MaxFlow
	for _, r := range []stream{full, spring, mouth} {
		if !yield(r) {
			return
		}
	}
	random := rand.New(rand.NewSource(4))
	for i := range 300 {
		n := api.MaxPlaces - i%3
		if !yield(randomStream(random, n, []int{3, 10, api.MaxFlow}[i%3], api.MaxUnits, []int{3, api.MaxGain}[i%2])) {
			return
		}
	}
}

// some are rivers of special kinds.
func some() []stream {
	return []stream{
		{[]int{2, 0}, [][]int{{5, 1}, {4, 3}}},
		{[]int{0, 2}, [][]int{{9}, {1}}},
		{[]int{0}, [][]int{nil}},
		{[]int{5}, [][]int{nil}},
		{[]int{5}, [][]int{{0, 0}}},
		{[]int{0, 0, 0}, [][]int{{3}, {3}, {3}}},
		{[]int{1, 0, 0}, [][]int{{3}, {3}, {3}}},
		{[]int{1, 1, 1}, [][]int{{2, 2}, {2, 2}, {2, 2}}},
		{[]int{3, 0, 0}, [][]int{{7, 7, 0}, nil, {7, 0, 0}}},
		{[]int{0, 3, 0, 1}, [][]int{{9, 9}, {4, 1}, {5, 4}, {4, 4}}},
		{[]int{30, 30}, [][]int{{1000, 1000}, {1}}},
	}
}

// randomStream returns a river of n places, with at most so much water, so many
// gains, and so great ones, at each place.
func randomStream(random *rand.Rand, n, flow, units, gain int) stream {
	var r stream
	for range n {
		// Half of the places have no water of their own, or few.
		r.flow = append(r.flow, random.Intn(flow+1)*random.Intn(2))
		gains := make([]int, random.Intn(units+1))
		for i := range gains {
			gains[i] = random.Intn(gain + 1)
		}
		slices.Sort(gains)
		slices.Reverse(gains)
		r.gains = append(r.gains, gains)
	}
	return r
}

func sum(l []int) int {
	s := 0
	for _, v := range l {
		s += v
	}
	return s
}

// possible follows the definition: of each i the places 0 to i.
func possible(flow, use []int) bool {
	for i := range flow {
		if sum(use[:i+1]) > sum(flow[:i+1]) {
			return false
		}
	}
	return true
}

// worthOf returns what all places gain.
func worthOf(gains [][]int, use []int) int {
	worth := 0
	for i, pieces := range use {
		for k := range pieces {
			if k < len(gains[i]) {
				worth += gains[i][k]
			}
		}
	}
	return worth
}

// uses yields all uses with at most so many pieces at each place, in
// lexicographic order, whether they are possible or not.
func uses(most []int) func(func([]int) bool) {
	return func(yield func([]int) bool) {
		use := make([]int, len(most))
		for {
			if !yield(use) {
				return
			}
			i := len(use) - 1
			for ; i >= 0 && use[i] == most[i]; i-- {
				use[i] = 0
			}
			if i < 0 {
				return
			}
			use[i]++
		}
	}
}

// bestOf returns the first best use and its worth, of all uses.
func bestOf(r stream) ([]int, int) {
	var most, best []int
	for _, l := range r.gains {
		most = append(most, len(l))
	}
	worth := -1
	for use := range uses(most) {
		if w := worthOf(r.gains, use); possible(r.flow, use) && w > worth {
			best, worth = slices.Clone(use), w
		}
	}
	return best, worth
}

// tableOf returns the same, place by place: for each place and each amount of
// water that flows past the ones before it, the best that can follow.
func tableOf(r stream) ([]int, int) {
	n, all := len(r.flow), sum(r.flow)
	table := make([][]int, n+1)
	table[n] = make([]int, all+1)
	for i := n - 1; i >= 0; i-- {
		table[i] = make([]int, all+1)
		for left := 0; left+r.flow[i] <= all; left++ {
			_, table[i][left] = bestStep(r, table[i+1], i, left)
		}
	}
	var use []int
	left := 0
	for i := range n {
		pieces, _ := bestStep(r, table[i+1], i, left)
		use = append(use, pieces)
		left += r.flow[i] - pieces
	}
	return use, table[0][0]
}

// bestStep returns the least number of pieces with the greatest worth at a place.
func bestStep(r stream, next []int, place, left int) (int, int) {
	best, most, gained := 0, -1, 0
	for pieces := 0; pieces <= min(len(r.gains[place]), left+r.flow[place]); pieces++ {
		if pieces > 0 {
			gained += r.gains[place][pieces-1]
		}
		if w := gained + next[left+r.flow[place]-pieces]; w > most {
			best, most = pieces, w
		}
	}
	return best, most
}

// groups returns all groups of n places, the empty one among them.
func groups(n int) [][]int {
	var all [][]int
	for mask := range 1 << n {
		var group []int
		for i := range n {
			if mask>>i&1 > 0 {
				group = append(group, i)
			}
		}
		all = append(all, group)
	}
	return all
}

// aloneOf returns the worth of a group alone: of its rows, one by one.
func aloneOf(r stream, group []int) int {
	worth := 0
	for from := 0; from < len(r.flow); from++ {
		for to := from + 1; to <= len(r.flow); to++ {
			if !isRow(group, from, to) {
				continue
			}
			_, w := tableOf(stream{r.flow[from:to], r.gains[from:to]})
			worth += w
		}
	}
	return worth
}

// isRow reports whether the places from..to-1 are a longest part of a group.
func isRow(group []int, from, to int) bool {
	for i := from; i < to; i++ {
		if !slices.Contains(group, i) {
			return false
		}
	}
	return !slices.Contains(group, from-1) && !slices.Contains(group, to)
}

// aspiresOf returns the greatest worth of the uses of all water by a group only.
func aspiresOf(r stream, group []int) int {
	most := make([]int, len(r.flow))
	for _, i := range group {
		most[i] = min(len(r.gains[i]), sum(r.flow))
	}
	worth := 0
	for use := range uses(most) {
		if possible(r.flow, use) {
			worth = max(worth, worthOf(r.gains, use))
		}
	}
	return worth
}

// callsOf returns the use by rights: each place tries all numbers of pieces.
func callsOf(flow, rights, ages []int) []int {
	use := make([]int, len(flow))
	for age := range ages {
		for place := range flow {
			if ages[place] != age {
				continue
			}
			for pieces := range rights[place] + 1 {
				next := slices.Clone(use)
				next[place] = pieces
				if possible(flow, next) {
					use = next
				}
			}
		}
	}
	return use
}

// A claim on a river by rights, as it is given to Calls.
type rights struct {
	flow, rights, ages []int
}

// claims yields rivers with rights of different age.
func claims(yield func(rights) bool) {
	random := rand.New(rand.NewSource(5))
	for i := range 2000 {
		n, most := 1+i%api.MaxPlaces, []int{2, 5, api.MaxFlow}[i%3]
		c := rights{ages: random.Perm(n)}
		for range n {
			c.flow = append(c.flow, random.Intn(most+1)*random.Intn(2))
			c.rights = append(c.rights, random.Intn(most+1))
		}
		if !yield(c) {
			return
		}
	}
}
