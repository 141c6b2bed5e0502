package temper_test

import (
	"math"
	"math/rand"
	"slices"
	"strings"
	"testing"

	"bolster/api"
	"bolster/temper"
)

func equalSets(a, b [][]string) bool { return slices.EqualFunc(a, b, slices.Equal[[]string]) }

// row is an oven of one phase and one row.
func row(cells string, moves []api.Move, jolts ...api.Jolt) api.Oven {
	return api.Oven{Safe: [][]string{{cells}}, Moves: moves, Jolts: jolts}
}

// still is the jolt that changes nothing.
var still = api.Jolt{}

func TestExamples(t *testing.T) {
	toAndFro := []api.Move{{X: 1}, {X: -1}}
	calm, rough := row("...", toAndFro, still), row("...", toAndFro, api.Jolt{X: 1}, api.Jolt{X: -1})
	if k, e := temper.Kernel(calm); e != api.OK || !equalSets(k, [][]string{{"..."}}) {
		t.Errorf("Kernel = %q, %d", k, e)
	}
	for x, want := range []int{0, 0, 1} {
		if m, e := temper.Choose(calm, api.Cell{X: x}); e != api.OK || m != want {
			t.Errorf("Choose of %d = %d, %d", x, m, e)
		}
	}
	if k, e := temper.Kernel(rough); e != api.OK || !equalSets(k, [][]string{{".#."}}) {
		t.Errorf("Kernel = %q, %d", k, e)
	}
	if n, e := temper.Lost(rough, api.Cell{X: 1}); e != api.OK || n != 1 {
		t.Errorf("Lost = %d, %d", n, e)
	}
	if l, e := temper.Play(rough, api.Cell{X: 0}, []int{0, 1, 1}); e != api.OK || !slices.Equal(l, []api.Cell{{X: 2}, {X: 0}, {X: 0}}) {
		t.Errorf("Play = %v, %d", l, e)
	}
	if n, m, e := temper.Reach(row(".....", []api.Move{{}, {X: 1}}, still), [][]string{{"####."}}, api.Cell{X: 1}); e != api.OK || n != 3 || m != 1 {
		t.Errorf("Reach = %d, %d, %d", n, m, e)
	}
	if safe, kernel, e := temper.Area(rough); e != api.OK || safe != 3 || kernel != 2 {
		t.Errorf("Area = %d, %d, %d", safe, kernel, e)
	}
}

// checkKernel holds Kernel and Area against the kernel.
func checkKernel(t *testing.T, o api.Oven, want [][]string) {
	t.Helper()
	k, e := temper.Kernel(o)
	if e != api.OK || !equalSets(k, want) {
		t.Fatalf("Kernel(%v) = %q, %d; want %q", o, k, e, want)
	}
	wantSafe, wantKernel := dots(o.Safe), dots(want)
	if safe, kernel, e := temper.Area(o); e != api.OK || safe != wantSafe || kernel != wantKernel {
		t.Fatalf("Area(%v) = %d, %d, %d; want %d, %d", o, safe, kernel, e, wantSafe, wantKernel)
	}
}

// dots returns how many cells are in a set.
func dots(set [][]string) int {
	return strings.Count(strings.Join(slices.Concat(set...), ""), ".")
}

// The kernel is the union of all sets that hold.
func TestKernelOfSmallOvens(t *testing.T) {
	part := 0
	for o := range small {
		want := greatestOf(o)
		if n := dots(want); n > 0 && n < dots(o.Safe) {
			part++
		}
		checkKernel(t, o, want)
	}
	if part < 30 {
		t.Errorf("only %d kernels are neither empty nor all safe cells", part)
	}
}

func TestKernelLostChoose(t *testing.T) {
	kinds := map[string]int{}
	for o := range ovens {
		lost := lossesOf(o)
		kernel := drawn(o, func(c api.Cell) bool { _, ok := lost[c]; return !ok })
		checkKernel(t, o, kernel)
		for _, c := range some(o) {
			want, isLost := lost[c]
			n, lostE := temper.Lost(o, c)
			m, chooseE := temper.Choose(o, c)
			if isLost {
				if n != want || lostE != api.OK || m != 0 || chooseE != api.ErrNone {
					t.Fatalf("%v of %v: Lost = %d, %d; Choose = %d, %d; lost in %d", c, o, n, lostE, m, chooseE, want)
				}
				kinds[[]string{"unsafe", "lost at once", "lost soon", "lost later"}[min(want, 3)]]++
				continue
			}
			if n != 0 || lostE != api.ErrNone || m != firstMove(o, c, kernel) || chooseE != api.OK {
				t.Fatalf("%v of %v: Lost = %d, %d; Choose = %d, %d; in the kernel", c, o, n, lostE, m, chooseE)
			}
			kinds["kept"]++
		}
	}
	for _, name := range []string{"unsafe", "lost at once", "lost soon", "lost later", "kept"} {
		if kinds[name] < 100 {
			t.Errorf("only %d cells are %s", kinds[name], name)
		}
	}
}

// In the corner from which the stairs lead down there are most steps to go.
func TestLostLate(t *testing.T) {
	rounds := 2 * (api.MaxGrid - 1)
	if n, e := temper.Lost(stairs(), api.Cell{}); e != api.OK || n != (rounds+1)*api.MaxPhases {
		t.Errorf("Lost = %d, %d", n, e)
	}
}

func TestHolds(t *testing.T) {
	source := rand.New(rand.NewSource(64))
	held, not := 0, 0
	for o := range ovens {
		kernel, _ := temper.Kernel(o)
		nothing := drawn(o, func(api.Cell) bool { return false })
		sets := [][][]string{kernel, nothing, o.Safe, drawn(o, func(api.Cell) bool { return true })}
		for i := range 8 {
			sets = append(sets, randomSet(source, o, []int{10, 50}[i%2]))
		}
		for _, c := range some(o) {
			sets = append(sets, drawn(o, func(d api.Cell) bool { return in(kernel, d) != (c == d) }))
		}
		for _, set := range sets {
			want := holds(o, set)
			if ok, e := temper.Holds(o, set); e != api.OK || ok != want {
				t.Fatalf("Holds(%v, %q) = %t, %d", o, set, ok, e)
			}
			if want && dots(set) > 0 {
				held++
			} else if !want {
				not++
			}
		}
	}
	if held < 100 || not < 100 {
		t.Errorf("%d sets held, %d did not", held, not)
	}
}

// A set with a cell that is not safe does not hold, even if all its steps stay in it.
func TestHoldsUnsafe(t *testing.T) {
	o := row("..#", []api.Move{{X: 1}, {X: -1}}, still)
	for _, c := range []struct {
		set  string
		want bool
	}{{"..#", true}, {"...", false}, {"#..", false}, {".##", false}, {"###", true}, {"##.", false}} {
		if ok, e := temper.Holds(o, [][]string{{c.set}}); e != api.OK || ok != c.want {
			t.Errorf("Holds(%q) = %t, %d", c.set, ok, e)
		}
	}
}

func TestReach(t *testing.T) {
	source := rand.New(rand.NewSource(65))
	far := map[int]int{}
	for o := range ovens {
		for i := range 3 {
			goal := randomSet(source, o, []int{95, 70, 20}[i])
			steps := distancesOf(o, goal)
			for _, c := range some(o) {
				n, m, e := temper.Reach(o, goal, c)
				want, ok := steps[c]
				if !ok {
					if n != 0 || m != 0 || e != api.ErrNone {
						t.Fatalf("Reach(%v, %q, %v) = %d, %d, %d; want none", o, goal, c, n, m, e)
					}
					continue
				}
				far[min(want, 4)]++
				wantMove := -1
				if want > 0 {
					wantMove = firstMove(o, c, closerThan(o, steps, want))
				}
				if n != want || m != wantMove || e != api.OK {
					t.Fatalf("Reach(%v, %q, %v) = %d, %d, %d; want %d, %d", o, goal, c, n, m, e, want, wantMove)
				}
			}
		}
	}
	for n := range 5 {
		if far[n] < 100 {
			t.Errorf("only %d cells at %d steps", far[n], n)
		}
	}
}

// A cell of the goal that is not safe is not reached, and nothing through it.
func TestReachUnsafeGoal(t *testing.T) {
	o := row("..#.", []api.Move{{X: 1}, {X: -1}}, still)
	for x := range 3 {
		if n, m, e := temper.Reach(o, [][]string{{"##.."}}, api.Cell{X: x}); e != api.ErrNone || n != 0 || m != 0 {
			t.Errorf("Reach of %d = %d, %d, %d", x, n, m, e)
		}
	}
	if n, m, e := temper.Reach(o, [][]string{{"##.."}}, api.Cell{X: 3}); e != api.OK || n != 0 || m != -1 {
		t.Errorf("Reach = %d, %d, %d", n, m, e)
	}
}

// One may reach a goal from which one does not stay safe; then one is lost later.
func TestReachOutsideTheKernel(t *testing.T) {
	o := row("....", []api.Move{{X: 1}}, still)
	if n, m, e := temper.Reach(o, [][]string{{"###."}}, api.Cell{X: 0}); e != api.OK || n != 3 || m != 0 {
		t.Errorf("Reach = %d, %d, %d", n, m, e)
	}
	if n, e := temper.Lost(o, api.Cell{X: 0}); e != api.OK || n != 4 {
		t.Errorf("Lost = %d, %d", n, e)
	}
}

// Of several moves that lead closer the first one counts, even where another leads
// closer still for some jolt.
func TestReachFirstMove(t *testing.T) {
	o := row(".......", []api.Move{{}, {X: 1}, {X: 2}, {X: 2}}, still, api.Jolt{X: 1})
	for x, want := range [][2]int{{3, 1}, {2, 2}, {2, 1}, {1, 2}, {1, 1}, {0, -1}, {0, -1}} {
		n, m, e := temper.Reach(o, [][]string{{"#####.."}}, api.Cell{X: x})
		if e != api.OK || n != want[0] || m != want[1] {
			t.Errorf("Reach of %d = %d, %d, %d; want %v", x, n, m, e, want)
		}
	}
}

func TestPlay(t *testing.T) {
	source := rand.New(rand.NewSource(66))
	moved := 0
	for o := range ovens {
		lost := lossesOf(o)
		kernel := drawn(o, func(c api.Cell) bool { _, ok := lost[c]; return !ok })
		for i, c := range some(o) {
			jolts := randomJolts(source, o, []int{0, 1, 20, api.MaxTurns}[i%4])
			l, e := temper.Play(o, c, jolts)
			if !in(kernel, c) {
				if e != api.ErrNone || len(l) > 0 {
					t.Fatalf("Play(%v, %v, %v) = %v, %d", o, c, jolts, l, e)
				}
				continue
			}
			var want []api.Cell
			for _, j := range jolts {
				c = stepOf(c, o.Moves[firstMove(o, c, kernel)], o.Jolts[j])
				want = append(want, c)
			}
			if e != api.OK || !slices.Equal(l, want) {
				t.Fatalf("Play(%v, .., %v) = %v, %d; want %v", o, jolts, l, e, want)
			}
			moved += len(l)
		}
	}
	if moved < 5000 {
		t.Errorf("only %d cells", moved)
	}
}

// randomJolts returns random numbers of jolts.
func randomJolts(source *rand.Rand, o api.Oven, n int) []int {
	var l []int
	for range n {
		l = append(l, source.Intn(len(o.Jolts)))
	}
	return l
}

// A phase without moves is lost at once, and what must go there a step later.
func TestPhaseWithoutMoves(t *testing.T) {
	o := api.Oven{Safe: [][]string{{"."}, {"."}, {"."}}, Moves: []api.Move{{From: 0, To: 1}, {From: 1, To: 2}}, Jolts: []api.Jolt{still}}
	for phase, want := range []int{3, 2, 1} {
		if n, e := temper.Lost(o, api.Cell{Phase: phase}); e != api.OK || n != want {
			t.Errorf("Lost of phase %d = %d, %d", phase, n, e)
		}
	}
	o.Moves = append(o.Moves, api.Move{From: 2, To: 0})
	if safe, kernel, e := temper.Area(o); e != api.OK || safe != 3 || kernel != 3 {
		t.Errorf("Area = %d, %d, %d", safe, kernel, e)
	}
	o.Moves = nil
	if safe, kernel, e := temper.Area(o); e != api.OK || safe != 3 || kernel != 0 {
		t.Errorf("Area without moves = %d, %d, %d", safe, kernel, e)
	}
}

// Jolts that are equal count as one, in play as what they are.
func TestEqualJolts(t *testing.T) {
	o := row("....", []api.Move{{X: 1}, {X: -1}, {}}, still, still, still)
	if n, m, e := temper.Reach(o, [][]string{{"###."}}, api.Cell{X: 0}); e != api.OK || n != 3 || m != 0 {
		t.Errorf("Reach = %d, %d, %d", n, m, e)
	}
	if l, e := temper.Play(o, api.Cell{X: 1}, []int{2, 0, 1}); e != api.OK || !slices.Equal(l, []api.Cell{{X: 2}, {X: 3}, {X: 2}}) {
		t.Errorf("Play = %v, %d", l, e)
	}
	if k, e := temper.Kernel(o); e != api.OK || !equalSets(k, o.Safe) {
		t.Errorf("Kernel = %q, %d", k, e)
	}
}

// Columns are X and rows are Y.
func TestDirections(t *testing.T) {
	o := api.Oven{Safe: [][]string{{"...", "..."}}, Moves: []api.Move{{Y: 1}, {X: 2}}, Jolts: []api.Jolt{still}}
	goal := [][]string{{"###", "##."}}
	for _, c := range []struct {
		x, y, steps, move int
	}{{0, 0, 2, 0}, {2, 0, 1, 0}, {0, 1, 1, 1}, {2, 1, 0, -1}} {
		if n, m, e := temper.Reach(o, goal, api.Cell{X: c.x, Y: c.y}); e != api.OK || n != c.steps || m != c.move {
			t.Errorf("Reach of %v = %d, %d, %d", c, n, m, e)
		}
	}
	if _, _, e := temper.Reach(o, goal, api.Cell{X: 1}); e != api.ErrNone {
		t.Errorf("Reach: %d", e)
	}
	o.Moves = []api.Move{{X: 2}, {X: -2}}
	if k, e := temper.Kernel(o); e != api.OK || !equalSets(k, [][]string{{".#.", ".#."}}) {
		t.Errorf("Kernel = %q, %d", k, e)
	}
}

// calls are the functions of an oven; each one reports whether its result is the zero
// value. Other arguments are bad as named, so that ErrArg is seen to be first.
func calls() map[string]func(o api.Oven) (bool, api.Errno) {
	none, long := api.Cell{Phase: -1}, make([]int, api.MaxTurns+1)
	return map[string]func(api.Oven) (bool, api.Errno){
		"Kernel":       func(o api.Oven) (bool, api.Errno) { k, e := temper.Kernel(o); return len(k) == 0, e },
		"Holds":        func(o api.Oven) (bool, api.Errno) { ok, e := temper.Holds(o, o.Safe); return !ok, e },
		"Holds, badly": func(o api.Oven) (bool, api.Errno) { ok, e := temper.Holds(o, [][]string{{"x"}}); return !ok, e },
		"Choose":       func(o api.Oven) (bool, api.Errno) { m, e := temper.Choose(o, api.Cell{}); return m == 0, e },
		"Play":         func(o api.Oven) (bool, api.Errno) { l, e := temper.Play(o, api.Cell{}, nil); return len(l) == 0, e },
		"Play, badly":  func(o api.Oven) (bool, api.Errno) { l, e := temper.Play(o, none, long); return len(l) == 0, e },
		"Lost":         func(o api.Oven) (bool, api.Errno) { n, e := temper.Lost(o, api.Cell{}); return n == 0, e },
		"Reach": func(o api.Oven) (bool, api.Errno) {
			n, m, e := temper.Reach(o, o.Safe, api.Cell{})
			return n == 0 && m == 0, e
		},
		"Reach, badly": func(o api.Oven) (bool, api.Errno) {
			n, m, e := temper.Reach(o, nil, none)
			return n == 0 && m == 0, e
		},
		"Area": func(o api.Oven) (bool, api.Errno) { a, b, e := temper.Area(o); return a == 0 && b == 0, e },
	}
}

// invalid returns ovens that are not valid, each for one reason.
func invalid() []api.Oven {
	wide, tall := strings.Repeat(".", api.MaxGrid+1), slices.Repeat([]string{"."}, api.MaxGrid+1)
	var l []api.Oven
	for _, safe := range [][][]string{nil, {}, {{}}, {nil}, {{""}}, {{wide}}, {tall}, {{"..", "."}}, {{".", ".."}}, {{"."}, {".."}}, {{".."}, {"."}},
		{{"."}, {}}, {{}, {"."}}, {{"."}, {".", "."}}, {{".", "."}, {"."}}, {{"x"}}, {{". "}}, {{".."}, {"#\x00"}}, {{"..", "\xff."}}, {{"é"}},
		slices.Repeat([][]string{{"."}}, api.MaxPhases+1)} {
		l = append(l, api.Oven{Safe: safe, Moves: []api.Move{{}}, Jolts: []api.Jolt{still}})
	}
	two := [][]string{{"..", ".."}, {"..", ".#"}}
	for _, n := range []int{api.MaxStep + 1, -api.MaxStep - 1, math.MaxInt, math.MinInt} {
		for _, m := range []api.Move{{X: n}, {Y: n}, {From: n}, {To: n}} {
			l = append(l, api.Oven{Safe: two, Moves: []api.Move{{}, m}, Jolts: []api.Jolt{still}})
		}
		for _, j := range []api.Jolt{{X: n}, {Y: n}} {
			l = append(l, api.Oven{Safe: two, Moves: []api.Move{{}}, Jolts: []api.Jolt{still, j}})
		}
	}
	for _, m := range []api.Move{{From: 2}, {To: 2}, {From: -1}, {To: -1}} {
		l = append(l, api.Oven{Safe: two, Moves: []api.Move{m}, Jolts: []api.Jolt{still}})
	}
	return append(l, api.Oven{}, api.Oven{Safe: two, Moves: []api.Move{{}}},
		api.Oven{Safe: two, Moves: make([]api.Move, api.MaxMoves+1), Jolts: []api.Jolt{still}},
		api.Oven{Safe: two, Moves: []api.Move{{}}, Jolts: make([]api.Jolt, api.MaxJolts+1)})
}

func TestInvalidOvens(t *testing.T) {
	for name, call := range calls() {
		for _, o := range invalid() {
			if zero, e := call(o); e != api.ErrArg || !zero {
				t.Errorf("%s(%v): %d, zero %t", name, o, e, zero)
			}
		}
	}
}

// Ovens at the limits are valid.
func TestLimits(t *testing.T) {
	wide := [][]string{slices.Repeat([]string{strings.Repeat(".", api.MaxGrid)}, api.MaxGrid)}
	for _, safe := range [][][]string{{{"."}}, {{"#"}}, wide, slices.Repeat(wide, api.MaxPhases), {slices.Repeat([]string{"."}, api.MaxGrid)}} {
		last := len(safe) - 1
		full := slices.Repeat([]api.Move{{From: last, To: last, X: api.MaxStep, Y: -api.MaxStep}}, api.MaxMoves)
		jolts := slices.Repeat([]api.Jolt{{X: -api.MaxStep, Y: api.MaxStep}}, api.MaxJolts)
		for _, o := range []api.Oven{{Safe: safe, Moves: full, Jolts: jolts}, {Safe: safe, Jolts: jolts[:1]}} {
			want := 0
			if len(o.Moves) > 0 { // the jolts undo the moves of the last phase
				want = dots(safe[last:])
			}
			if a, k, e := temper.Area(o); e != api.OK || a != dots(safe) || k != want {
				t.Errorf("Area(%v) = %d, %d, %d; want %d, %d", o, a, k, e, dots(safe), want)
			}
		}
	}
}

func TestCellsThatDoNotExist(t *testing.T) {
	o := api.Oven{Safe: [][]string{{"...", "..."}, {"...", "..."}}, Moves: []api.Move{{}, {From: 1}}, Jolts: []api.Jolt{still}}
	long := make([]int, api.MaxTurns+1)
	for _, c := range []api.Cell{{Phase: 2}, {X: 3}, {Y: 2}, {Phase: -1}, {X: -1}, {Y: -1}, {Phase: math.MaxInt}, {X: math.MaxInt}, {Y: math.MinInt}, {X: 2, Y: 3}} {
		if m, e := temper.Choose(o, c); e != api.ErrArg || m != 0 {
			t.Errorf("Choose(%v) = %d, %d", c, m, e)
		}
		for _, jolts := range [][]int{nil, {0}, {1}, long} {
			if l, e := temper.Play(o, c, jolts); e != api.ErrArg || len(l) > 0 {
				t.Errorf("Play(%v) = %v, %d", c, l, e)
			}
		}
		if n, e := temper.Lost(o, c); e != api.ErrArg || n != 0 {
			t.Errorf("Lost(%v) = %d, %d", c, n, e)
		}
		for _, goal := range [][][]string{nil, o.Safe, {{"x"}}} {
			if n, m, e := temper.Reach(o, goal, c); e != api.ErrArg || n != 0 || m != 0 {
				t.Errorf("Reach(%v) = %d, %d, %d", c, n, m, e)
			}
		}
	}
}

func TestMalformedSets(t *testing.T) {
	o := api.Oven{Safe: [][]string{{"..#", "..."}, {"...", "..."}}, Moves: []api.Move{{}, {From: 1}}, Jolts: []api.Jolt{still}}
	good := []string{"...", "###"}
	for _, set := range [][][]string{nil, {}, {good}, {good, good, good}, {good, nil}, {nil, good}, {good, good[:1]}, {good, {"...", "...", "..."}},
		{good, {"...", ".."}}, {good, {"...", "...."}}, {{"..", ".."}, {"..", ".."}}, {good, {"...", "..x"}}, {{"..\xff", "..."}, good}, {{"...", "   "}, good}} {
		if ok, e := temper.Holds(o, set); e != api.ErrForm || ok {
			t.Errorf("Holds(%q) = %t, %d", set, ok, e)
		}
		// Even where there would be no number of steps.
		for _, c := range []api.Cell{{}, {X: 2}} {
			if n, m, e := temper.Reach(o, set, c); e != api.ErrForm || n != 0 || m != 0 {
				t.Errorf("Reach(%q, %v) = %d, %d, %d", set, c, n, m, e)
			}
		}
	}
}

// Of several errors of Play the one that is named first is returned.
func TestPlayErrors(t *testing.T) {
	o := row("..#", []api.Move{{}}, still, still)
	many := slices.Repeat([]int{1}, api.MaxTurns)
	for _, c := range []struct {
		x     int
		jolts []int
		want  api.Errno
	}{
		{0, many, api.OK}, {0, nil, api.OK}, {0, append(slices.Clone(many), 0), api.ErrLong}, {2, append(slices.Clone(many), -1), api.ErrLong},
		{0, append(slices.Clone(many[1:]), 2), api.ErrForm}, {0, []int{0, -1}, api.ErrForm}, {2, []int{2, 0}, api.ErrForm},
		{0, []int{math.MaxInt}, api.ErrForm}, {0, []int{math.MinInt}, api.ErrForm}, {2, []int{1}, api.ErrNone}, {2, nil, api.ErrNone},
	} {
		l, e := temper.Play(o, api.Cell{X: c.x}, c.jolts)
		if e != c.want || e == api.OK && len(l) != len(c.jolts) || e != api.OK && len(l) > 0 {
			t.Errorf("Play(%d, %v) = %v, %d; want %d", c.x, c.jolts, l, e, c.want)
		}
	}
}

func TestMemory(t *testing.T) {
	o := row("....", []api.Move{{X: 1}, {X: -1}, {}}, still, api.Jolt{X: 1})
	goal, jolts, want := [][]string{{"#..#"}}, []int{0, 1, 1}, row("....", []api.Move{{X: 1}, {X: -1}, {}}, still, api.Jolt{X: 1})
	kernel, _ := temper.Kernel(o)
	cells, _ := temper.Play(o, api.Cell{}, jolts)
	keptKernel, keptCells := kernel[0][0], slices.Clone(cells)
	kernel[0][0] = "####"
	for i := range cells {
		cells[i] = api.Cell{X: -1}
	}
	temper.Holds(o, goal)
	temper.Reach(o, goal, api.Cell{})
	if again, _ := temper.Kernel(o); again[0][0] != keptKernel {
		t.Errorf("Kernel = %q, then %q", keptKernel, again)
	}
	if again, _ := temper.Play(o, api.Cell{}, jolts); !slices.Equal(again, keptCells) {
		t.Errorf("Play = %v, then %v", keptCells, again)
	}
	if !equalSets(o.Safe, want.Safe) || !slices.Equal(o.Moves, want.Moves) || !slices.Equal(o.Jolts, want.Jolts) ||
		!equalSets(goal, [][]string{{"#..#"}}) || !slices.Equal(jolts, []int{0, 1, 1}) {
		t.Error("an argument was changed")
	}
}
