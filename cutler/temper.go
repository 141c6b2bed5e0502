package cutler

import (
	"slices"
	"strconv"

	"bolster/api"
	"bolster/temper"
)

// newOven returns an oven of one phase without rows.
func newOven() api.Oven { return api.Oven{Safe: make([][]string, 1)} }

func (c *Cutler) addPhase(arguments) reply {
	return add(&c.oven.Safe, nil, api.MaxPhases)
}

func (c *Cutler) addRow(a arguments) reply {
	phase := a.numbers[0]
	if phase < 0 || phase >= len(c.oven.Safe) {
		return done(api.ErrArg)
	}
	c.oven.Safe = slices.Clone(c.oven.Safe)
	return add(&c.oven.Safe[phase], a.texts[0], api.MaxGrid)
}

func (c *Cutler) addMove(a arguments) reply {
	n := a.numbers
	return add(&c.oven.Moves, api.Move{From: n[0], To: n[1], X: n[2], Y: n[3]}, api.MaxMoves)
}

func (c *Cutler) addJolt(a arguments) reply {
	return add(&c.oven.Jolts, api.Jolt{X: a.numbers[0], Y: a.numbers[1]}, api.MaxJolts)
}

func (c *Cutler) kernel(arguments) reply {
	phases, e := temper.Kernel(c.oven)
	var rows [][]string
	for phase, safe := range phases {
		for _, cells := range safe {
			rows = append(rows, []string{strconv.Itoa(phase), cells})
		}
	}
	return texts("row").each(rows, e)
}

// cellOf returns the cell that three numbers are.
func cellOf(n []int) api.Cell { return api.Cell{Phase: n[0], X: n[1], Y: n[2]} }

func (c *Cutler) choose(a arguments) reply {
	cell := cellOf(a.numbers)
	move, e := temper.Choose(c.oven, cell)
	if e == api.ErrNone {
		return numbers("lost").one(temper.Lost(c.oven, cell))
	}
	return numbers("choose").one(move, e)
}

func (c *Cutler) play(a arguments) reply {
	cells, e := temper.Play(c.oven, cellOf(a.numbers), a.numbers[3:])
	var rows [][]int
	for _, cell := range cells {
		rows = append(rows, []int{cell.Phase, cell.X, cell.Y})
	}
	return numbers("cell").each(rows, e)
}
