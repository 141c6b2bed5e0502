package temper_test

// The definitions of the chapter, followed word by word: what the package's results are
// held against. They go round by round over all cells, and share no code with it.

import (
	"math/rand"
	"slices"
	"strings"

	"bolster/api"
)

// cellsOf returns the cells of an oven, in their order.
func cellsOf(o api.Oven) []api.Cell {
	var l []api.Cell
	for phase, rows := range o.Safe {
		for y, row := range rows {
			for x := range len(row) {
				l = append(l, api.Cell{Phase: phase, X: x, Y: y})
			}
		}
	}
	return l
}

// some returns about thirty cells of an oven, in their order, or all if it has fewer.
func some(o api.Oven) []api.Cell {
	var l []api.Cell
	all := cellsOf(o)
	for i := 0; i < len(all); i += 1 + len(all)/30 {
		l = append(l, all[i])
	}
	return l
}

// in reports whether a cell exists and is in a set.
func in(set [][]string, c api.Cell) bool {
	if c.Phase < 0 || c.Phase >= len(set) || c.Y < 0 || c.Y >= len(set[c.Phase]) {
		return false
	}
	row := set[c.Phase][c.Y]
	return c.X >= 0 && c.X < len(row) && row[c.X] == '.'
}

// stepOf returns where a move and a jolt lead from a cell.
func stepOf(c api.Cell, m api.Move, j api.Jolt) api.Cell {
	return api.Cell{Phase: m.To, X: c.X + m.X + j.X, Y: c.Y + m.Y + j.Y}
}

// keeps reports whether every jolt leads from a cell by a move to a cell of a set.
func keeps(o api.Oven, c api.Cell, m api.Move, set [][]string) bool {
	for _, j := range o.Jolts {
		if !in(set, stepOf(c, m, j)) {
			return false
		}
	}
	return m.From == c.Phase
}

// firstMove returns the first move by which every jolt leads from a cell to a set, or -1.
func firstMove(o api.Oven, c api.Cell, set [][]string) int {
	return slices.IndexFunc(o.Moves, func(m api.Move) bool { return keeps(o, c, m, set) })
}

// holds reports whether a set holds.
func holds(o api.Oven, set [][]string) bool {
	for _, c := range cellsOf(o) {
		if in(set, c) && (!in(o.Safe, c) || firstMove(o, c, set) < 0) {
			return false
		}
	}
	return true
}

// drawn returns the set of the cells for which a function is true.
func drawn(o api.Oven, isIn func(api.Cell) bool) [][]string {
	set := make([][]string, len(o.Safe))
	for phase, rows := range o.Safe {
		for y, row := range rows {
			var b strings.Builder
			for x := range len(row) {
				if isIn(api.Cell{Phase: phase, X: x, Y: y}) {
					b.WriteByte('.')
				} else {
					b.WriteByte('#')
				}
			}
			set[phase] = append(set[phase], b.String())
		}
	}
	return set
}

// isLost reports whether a cell that was not lost before is lost now, after those that
// have a number in lost.
func isLost(o api.Oven, c api.Cell, lost map[api.Cell]int) bool {
	for _, m := range o.Moves {
		if m.From != c.Phase {
			continue
		}
		bad := false
		for _, j := range o.Jolts {
			next := stepOf(c, m, j)
			_, isNextLost := lost[next]
			bad = bad || !in(o.Safe, next) || isNextLost
		}
		if !bad {
			return false
		}
	}
	return true
}

// lossesOf returns in how many steps cells are lost, as far as they are.
func lossesOf(o api.Oven) map[api.Cell]int {
	lost := map[api.Cell]int{}
	for _, c := range cellsOf(o) {
		if !in(o.Safe, c) {
			lost[c] = 0
		}
	}
	for k, more := 0, true; more; k++ {
		var next []api.Cell
		for _, c := range cellsOf(o) {
			if _, ok := lost[c]; !ok && isLost(o, c, lost) {
				next = append(next, c)
			}
		}
		for _, c := range next {
			lost[c] = k + 1
		}
		more = len(next) > 0
	}
	return lost
}

// distancesOf returns how many steps cells are from a goal, as far as they are any.
func distancesOf(o api.Oven, goal [][]string) map[api.Cell]int {
	steps := map[api.Cell]int{}
	for _, c := range cellsOf(o) {
		if in(o.Safe, c) && in(goal, c) {
			steps[c] = 0
		}
	}
	for k, more := 0, true; more; k++ {
		atMost := closerThan(o, steps, k+1)
		more = false
		for _, c := range cellsOf(o) {
			if _, ok := steps[c]; !ok && in(o.Safe, c) && firstMove(o, c, atMost) >= 0 {
				steps[c] = k + 1
				more = true
			}
		}
	}
	return steps
}

// closerThan returns the set of the cells that are less than k steps from a goal.
func closerThan(o api.Oven, steps map[api.Cell]int, k int) [][]string {
	return drawn(o, func(c api.Cell) bool {
		n, ok := steps[c]
		return ok && n < k
	})
}

// greatestOf returns the union of all sets that hold: each set of safe cells is tried.
func greatestOf(o api.Oven) [][]string {
	var safe []api.Cell
	for _, c := range cellsOf(o) {
		if in(o.Safe, c) {
			safe = append(safe, c)
		}
	}
	union := 0
	for mask := range 1 << len(safe) {
		if holds(o, chosen(o, safe, mask)) {
			union |= mask
		}
	}
	return chosen(o, safe, union)
}

// chosen returns the set of the cells of a list that have a bit in a mask.
func chosen(o api.Oven, l []api.Cell, mask int) [][]string {
	return drawn(o, func(c api.Cell) bool {
		i := slices.Index(l, c)
		return i >= 0 && mask>>i&1 == 1
	})
}

// kind tells of what kind a random oven is.
type kind struct {
	phases, rows, columns, moves, jolts, step, jolt int
	walls                                           int // in a hundred cells
}

// random returns a random oven of a kind, whose moves and jolts are within its grid.
func random(source *rand.Rand, k kind) api.Oven {
	var o api.Oven
	within := func(most, size int) int {
		most = min(most, size-1)
		return source.Intn(2*most+1) - most
	}
	for range k.phases {
		var rows []string
		for range k.rows {
			rows = append(rows, randomRow(source, k.columns, k.walls))
		}
		o.Safe = append(o.Safe, rows)
	}
	for range k.moves {
		o.Moves = append(o.Moves, api.Move{From: source.Intn(k.phases), To: source.Intn(k.phases), X: within(k.step, k.columns), Y: within(k.step, k.rows)})
	}
	for range k.jolts {
		o.Jolts = append(o.Jolts, api.Jolt{X: within(k.jolt, k.columns), Y: within(k.jolt, k.rows)})
	}
	return o
}

func randomRow(source *rand.Rand, columns, walls int) string {
	row := make([]byte, columns)
	for x := range row {
		row[x] = '.'
		if source.Intn(100) < walls {
			row[x] = '#'
		}
	}
	return string(row)
}

// randomSet returns a random set of an oven's cells.
func randomSet(source *rand.Rand, o api.Oven, walls int) [][]string {
	return drawn(o, func(api.Cell) bool { return source.Intn(100) >= walls })
}

// small yields ovens with at most nine cells.
func small(yield func(api.Oven) bool) {
	source := rand.New(rand.NewSource(61))
	sizes := []kind{{phases: 1, rows: 1, columns: 9}, {phases: 1, rows: 9, columns: 1}, {phases: 1, rows: 3, columns: 3},
		{phases: 2, rows: 2, columns: 2}, {phases: 2, rows: 1, columns: 4}, {phases: 3, rows: 3, columns: 1}, {phases: 4, rows: 1, columns: 2}}
	for i := range 210 {
		k := sizes[i%len(sizes)]
		k.moves, k.jolts = 2+source.Intn(9), 1+source.Intn(2)
		k.step, k.jolt, k.walls = 1+source.Intn(2), source.Intn(4)/2, []int{0, 10, 30}[i%3]
		if !yield(random(source, k)) {
			return
		}
	}
}

// ovens yields ovens of many kinds and sizes.
func ovens(yield func(api.Oven) bool) {
	for o := range small {
		if !yield(o) {
			return
		}
	}
	source := rand.New(rand.NewSource(62))
	for i := range 240 {
		k := kind{phases: 1 + i%api.MaxPhases, rows: 1 + source.Intn(7), columns: 1 + source.Intn(7)}
		k.moves, k.jolts = source.Intn(api.MaxMoves+1), 1+source.Intn(api.MaxJolts)
		k.step, k.jolt, k.walls = 1+source.Intn(3), source.Intn(3), []int{0, 5, 15, 40}[i/4%4]
		if i%2 == 0 {
			k.moves, k.jolt = 8+source.Intn(9), 1
		}
		if !yield(random(source, k)) {
			return
		}
	}
	for _, o := range great() {
		if !yield(o) {
			return
		}
	}
}

// great returns ovens of the greatest size.
func great() []api.Oven {
	source := rand.New(rand.NewSource(63))
	l := []api.Oven{stairs(), open()}
	for _, step := range []int{1, 2, api.MaxStep} {
		k := kind{phases: api.MaxPhases, rows: api.MaxGrid, columns: api.MaxGrid, moves: api.MaxMoves, jolts: api.MaxJolts, step: step, jolt: 1, walls: 3}
		l = append(l, random(source, k))
		k.phases, k.jolts = 1, 2
		l = append(l, random(source, k))
	}
	return l
}

// open is an oven of one phase that is safe everywhere, with moves and jolts of all
// directions.
func open() api.Oven {
	o := api.Oven{Safe: [][]string{slices.Repeat([]string{strings.Repeat(".", api.MaxGrid)}, api.MaxGrid)}}
	for _, d := range [][2]int{{0, 1}, {1, 0}, {0, -1}, {-1, 0}} {
		o.Moves = append(o.Moves, api.Move{X: api.MaxStep * d[0], Y: api.MaxStep * d[1]})
		o.Jolts = append(o.Jolts, api.Jolt{X: d[1], Y: -d[0]})
	}
	return o
}

// stairs is an oven in which one must go down, round by round of the phases, and is lost
// at the end at the latest.
func stairs() api.Oven {
	o := api.Oven{Jolts: []api.Jolt{{X: 0, Y: 0}}}
	for phase := range api.MaxPhases {
		o.Safe = append(o.Safe, slices.Repeat([]string{strings.Repeat(".", api.MaxGrid)}, api.MaxGrid))
		if phase+1 < api.MaxPhases {
			o.Moves = append(o.Moves, api.Move{From: phase, To: phase + 1})
		}
	}
	last := api.MaxPhases - 1
	o.Moves = append(o.Moves, api.Move{From: last, X: 1}, api.Move{From: last, Y: 1})
	return o
}
