package temper

import (
	"slices"

	"bolster/api"
)

// position is the phase, the row and the column of a cell, so that positions are
// ordered as cells are.
type position [3]int

// set is a set of positions.
type set map[position]bool

// option is what one may choose at a safe cell: a move by which no jolt leads out.
type option struct {
	from position
	move int
	to   []position // where the jolts lead, each position once
}

// oven is an oven as the options that it offers.
type oven struct {
	phases, rows, columns int
	safe                  set
	options               []option           // by their positions and moves
	at                    map[position][]int // the options from a position
	into                  map[position][]int // the options of which a jolt leads to a position
}

// newOven returns an oven, or the error of one that is not valid.
func newOven(given api.Oven) (*oven, api.Errno) {
	if !isValid(given) {
		return nil, api.ErrArg
	}
	o := &oven{phases: len(given.Safe), rows: len(given.Safe[0]), columns: len(given.Safe[0][0])}
	o.safe, o.at, o.into = o.dots(given.Safe), map[position][]int{}, map[position][]int{}
	for p := range o.positions {
		if o.safe[p] {
			o.addOptions(p, given)
		}
	}
	return o, api.OK
}

// isValid reports whether an oven is valid.
func isValid(o api.Oven) bool {
	if len(o.Safe) < 1 || len(o.Safe) > api.MaxPhases || len(o.Moves) > api.MaxMoves || len(o.Jolts) < 1 || len(o.Jolts) > api.MaxJolts {
		return false
	}
	rows := len(o.Safe[0])
	if rows < 1 || rows > api.MaxGrid {
		return false
	}
	columns := len(o.Safe[0][0])
	if columns < 1 || columns > api.MaxGrid || !isDrawn(o.Safe, len(o.Safe), rows, columns) {
		return false
	}
	for _, m := range o.Moves {
		if m.From < 0 || m.From >= len(o.Safe) || m.To < 0 || m.To >= len(o.Safe) || !areSteps(m.X, m.Y) {
			return false
		}
	}
	return !slices.ContainsFunc(o.Jolts, func(j api.Jolt) bool { return !areSteps(j.X, j.Y) })
}

// areSteps reports whether two numbers may be those of a move or of a jolt.
func areSteps(x, y int) bool {
	return x >= -api.MaxStep && x <= api.MaxStep && y >= -api.MaxStep && y <= api.MaxStep
}

// isDrawn reports whether rows of phases are of a size, and of dots and # alone.
func isDrawn(drawn [][]string, phases, rows, columns int) bool {
	for _, phase := range drawn {
		if len(phase) != rows {
			return false
		}
		for _, row := range phase {
			if len(row) != columns {
				return false
			}
			for i := range len(row) {
				if row[i] != '.' && row[i] != '#' {
					return false
				}
			}
		}
	}
	return len(drawn) == phases
}

// newSet returns a set as it is drawn, or the error of one that is malformed.
func (o *oven) newSet(drawn [][]string) (set, api.Errno) {
	if !isDrawn(drawn, o.phases, o.rows, o.columns) {
		return nil, api.ErrForm
	}
	return o.dots(drawn), api.OK
}

// dots returns the positions of the dots.
func (o *oven) dots(drawn [][]string) set {
	s := set{}
	for p := range o.positions {
		if drawn[p[0]][p[1]][p[2]] == '.' {
			s[p] = true
		}
	}
	return s
}

// positions yields the positions of all cells, in their order.
func (o *oven) positions(yield func(position) bool) {
	for phase := range o.phases {
		for row := range o.rows {
			for column := range o.columns {
				if !yield(position{phase, row, column}) {
					return
				}
			}
		}
	}
}

// locate returns the position of a cell, or the error of one that does not exist.
func (o *oven) locate(c api.Cell) (position, api.Errno) {
	if c.Phase < 0 || c.Phase >= o.phases || c.X < 0 || c.X >= o.columns || c.Y < 0 || c.Y >= o.rows {
		return position{}, api.ErrArg
	}
	return position{c.Phase, c.Y, c.X}, api.OK
}

// cell returns the cell at the position.
func (p position) cell() api.Cell { return api.Cell{Phase: p[0], X: p[2], Y: p[1]} }

// step returns where a move and a jolt lead.
func (p position) step(m api.Move, j api.Jolt) position {
	return position{m.To, p[1] + m.Y + j.Y, p[2] + m.X + j.X}
}

// addOptions adds the options from a position.
func (o *oven) addOptions(p position, given api.Oven) {
	for number, m := range given.Moves {
		if m.From != p[0] {
			continue
		}
		to := o.landings(p, m, given.Jolts)
		if to == nil {
			continue
		}
		o.at[p] = append(o.at[p], len(o.options))
		for _, q := range to {
			o.into[q] = append(o.into[q], len(o.options))
		}
		o.options = append(o.options, option{p, number, to})
	}
}

// landings returns the positions to which the jolts lead by a move, each once: jolts
// may be equal. It returns nil if a jolt leads out.
func (o *oven) landings(p position, m api.Move, jolts []api.Jolt) []position {
	to := make([]position, 0, len(jolts))
	for _, j := range jolts {
		q := p.step(m, j)
		if !o.safe[q] {
			return nil
		}
		if !slices.Contains(to, q) {
			to = append(to, q)
		}
	}
	return to
}
