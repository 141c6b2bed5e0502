package temper_test

import (
	"math/rand"
	"slices"
	"testing"

	"bolster/api"
	"bolster/temper"
)

// kernelOf returns the kernel of an oven.
func kernelOf(t *testing.T, o api.Oven) [][]string {
	t.Helper()
	k, e := temper.Kernel(o)
	if e != api.OK {
		t.Fatalf("Kernel(%v): %d", o, e)
	}
	return k
}

// contains reports whether a set contains all cells of another one.
func contains(o api.Oven, set, other [][]string) bool {
	return !slices.ContainsFunc(cellsOf(o), func(c api.Cell) bool { return in(other, c) && !in(set, c) })
}

// T1: the kernel holds, and contains every set that holds.
func TestT1Kernel(t *testing.T) {
	for o := range ovens {
		k := kernelOf(t, o)
		if ok, e := temper.Holds(o, k); e != api.OK || !ok || !holds(o, k) {
			t.Fatalf("Holds(%v, %q) = %t, %d", o, k, ok, e)
		}
	}
	held := 0
	for o := range small {
		k := kernelOf(t, o)
		cells := cellsOf(o)
		for mask := range 1 << len(cells) {
			set := chosen(o, cells, mask)
			ok, e := temper.Holds(o, set)
			if e != api.OK || ok && !contains(o, k, set) {
				t.Fatalf("Holds(%v, %q) = %t, %d; the kernel is %q", o, set, ok, e, k)
			}
			if ok && mask > 0 {
				held++
			}
		}
	}
	if held < 1000 {
		t.Errorf("only %d sets held", held)
	}
}

// T2: more moves never make the kernel smaller, more jolts never greater.
func TestT2MovesAndJolts(t *testing.T) {
	greater, smaller := 0, 0
	for o := range ovens {
		k := kernelOf(t, o)
		for i := range o.Moves {
			fewer := o
			fewer.Moves = slices.Delete(slices.Clone(o.Moves), i, i+1)
			l := kernelOf(t, fewer)
			if !contains(o, k, l) {
				t.Fatalf("%v: the kernel is %q, without move %d %q", o, k, i, l)
			}
			if !equalSets(k, l) {
				greater++
			}
		}
		for i := range o.Jolts {
			fewer := o
			fewer.Jolts = slices.Delete(slices.Clone(o.Jolts), i, i+1)
			if len(fewer.Jolts) == 0 {
				continue
			}
			l := kernelOf(t, fewer)
			if !contains(o, l, k) {
				t.Fatalf("%v: the kernel is %q, without jolt %d %q", o, k, i, l)
			}
			if !equalSets(k, l) {
				smaller++
			}
		}
	}
	if greater < 100 || smaller < 100 {
		t.Errorf("a move made the kernel greater %d times, a jolt smaller %d times", greater, smaller)
	}
}

// T3: all cells of Play are in the kernel, and each one comes from the one before it by
// Choose's move and the jolt.
func TestT3Play(t *testing.T) {
	source := rand.New(rand.NewSource(67))
	played := 0
	for o := range ovens {
		k := kernelOf(t, o)
		for i, c := range some(o) {
			if !in(k, c) || i%3 > 0 {
				continue
			}
			jolts := randomJolts(source, o, 10)
			l, e := temper.Play(o, c, jolts)
			if e != api.OK || len(l) != len(jolts) {
				t.Fatalf("Play(%v, %v, %v) = %v, %d", o, c, jolts, l, e)
			}
			for i, next := range l {
				m, e := temper.Choose(o, c)
				if e != api.OK || !in(k, next) || next != stepOf(c, o.Moves[m], o.Jolts[jolts[i]]) {
					t.Fatalf("Play(%v, .., %v) = %v: %v after %v; Choose = %d, %d", o, jolts, l, next, c, m, e)
				}
				c = next
			}
			played++
		}
	}
	if played < 500 {
		t.Errorf("only %d plays", played)
	}
}

// T4: a cell is in the kernel exactly if it is never lost; otherwise each move has a jolt
// that leads out, or to a cell that is lost in fewer steps.
func TestT4Lost(t *testing.T) {
	for o := range ovens {
		k := kernelOf(t, o)
		for i, c := range some(o) {
			n, e := temper.Lost(o, c)
			if in(k, c) != (e == api.ErrNone) || !in(k, c) && e != api.OK || e == api.OK && in(o.Safe, c) != (n > 0) {
				t.Fatalf("Lost(%v, %v) = %d, %d; the kernel is %q", o, c, n, e, k)
			}
			if e != api.OK || n == 0 || i%2 > 0 {
				continue
			}
			for _, m := range o.Moves {
				if m.From == c.Phase && !isSpoilt(o, c, m, n) {
					t.Fatalf("Lost(%v, %v) = %d, and move %v", o, c, n, m)
				}
			}
		}
	}
}

// isSpoilt reports whether a jolt leads by a move from a cell out, or to one that is lost
// in less than n steps.
func isSpoilt(o api.Oven, c api.Cell, m api.Move, n int) bool {
	for _, j := range o.Jolts {
		next := stepOf(c, m, j)
		if !in(o.Safe, next) {
			return true
		}
		if fewer, e := temper.Lost(o, next); e == api.OK && fewer < n {
			return true
		}
	}
	return false
}

// T5: by Reach's moves the goal is reached in time, over safe cells, whatever jolts come:
// all of them are followed at once.
func TestT5Reach(t *testing.T) {
	source := rand.New(rand.NewSource(68))
	steps := 0
	for o := range ovens {
		goal := randomSet(source, o, 85)
		moves := map[api.Cell]int{}
		for _, c := range some(o) {
			n, _, e := temper.Reach(o, goal, c)
			if e != api.OK {
				continue
			}
			at := []api.Cell{c}
			for left := n; len(at) > 0; left-- {
				if left < 0 {
					t.Fatalf("Reach(%v, %q, %v) = %d; then still at %v", o, goal, c, n, at)
				}
				at = followed(t, o, goal, at, moves)
				steps++
			}
		}
	}
	if steps < 4000 {
		t.Errorf("only %d steps", steps)
	}
}

// followed returns the cells to which Reach's moves may lead from those that are not in
// a goal. The moves that are known already are kept.
func followed(t *testing.T, o api.Oven, goal [][]string, at []api.Cell, moves map[api.Cell]int) []api.Cell {
	t.Helper()
	var next []api.Cell
	for _, c := range at {
		m, ok := moves[c]
		if !ok {
			var e api.Errno
			_, m, e = temper.Reach(o, goal, c)
			if e != api.OK || !in(o.Safe, c) || (m == -1) != in(goal, c) || m >= 0 && o.Moves[m].From != c.Phase {
				t.Fatalf("Reach(%v, %q, %v) = .., %d, %d", o, goal, c, m, e)
			}
			moves[c] = m
		}
		for _, j := range o.Jolts {
			if m >= 0 && !slices.Contains(next, stepOf(c, o.Moves[m], j)) {
				next = append(next, stepOf(c, o.Moves[m], j))
			}
		}
	}
	return next
}

// T6: the kernel of the oven whose safe cells are the kernel is the kernel.
func TestT6Again(t *testing.T) {
	for o := range ovens {
		k := kernelOf(t, o)
		again := o
		again.Safe = k
		if l := kernelOf(t, again); !equalSets(l, k) {
			t.Fatalf("%v: the kernel is %q, and of that %q", o, k, l)
		}
	}
}

// T7: mirroring the grid, with all moves and jolts, mirrors the kernel.
func TestT7Mirror(t *testing.T) {
	for o := range ovens {
		k := kernelOf(t, o)
		columns, rows := o, o
		columns.Safe, rows.Safe = mirroredColumns(o.Safe), mirroredRows(o.Safe)
		columns.Moves, rows.Moves, columns.Jolts, rows.Jolts = nil, nil, nil, nil
		for _, m := range o.Moves {
			columns.Moves = append(columns.Moves, api.Move{From: m.From, To: m.To, X: -m.X, Y: m.Y})
			rows.Moves = append(rows.Moves, api.Move{From: m.From, To: m.To, X: m.X, Y: -m.Y})
		}
		for _, j := range o.Jolts {
			columns.Jolts = append(columns.Jolts, api.Jolt{X: -j.X, Y: j.Y})
			rows.Jolts = append(rows.Jolts, api.Jolt{X: j.X, Y: -j.Y})
		}
		if l := kernelOf(t, columns); !equalSets(l, mirroredColumns(k)) {
			t.Fatalf("%v: the kernel is %q, with mirrored columns %q", o, k, l)
		}
		if l := kernelOf(t, rows); !equalSets(l, mirroredRows(k)) {
			t.Fatalf("%v: the kernel is %q, with mirrored rows %q", o, k, l)
		}
	}
}

func mirroredColumns(set [][]string) [][]string {
	var l [][]string
	for _, phase := range set {
		var rows []string
		for _, row := range phase {
			b := []byte(row)
			slices.Reverse(b)
			rows = append(rows, string(b))
		}
		l = append(l, rows)
	}
	return l
}

func mirroredRows(set [][]string) [][]string {
	var l [][]string
	for _, phase := range set {
		rows := slices.Clone(phase)
		slices.Reverse(rows)
		l = append(l, rows)
	}
	return l
}
