package cutler

import (
	"bolster/api"
	"bolster/gear"
)

// setWheels lays a gear without belts.
func (c *Cutler) setWheels(a arguments) reply {
	n := a.numbers[0]
	if n < 1 || n > api.MaxWheels {
		return done(api.ErrArg)
	}
	c.wheels, c.belts = n, nil
	return done(api.OK)
}

func (c *Cutler) addBelt(a arguments) reply {
	n := a.numbers
	return add(&c.belts, api.Belt{A: n[0], B: n[1], Over: n[2], Under: n[3]}, api.MaxBelts)
}

func (c *Cutler) speeds(arguments) reply {
	speeds, e := gear.Speeds(c.wheels, c.belts)
	if e == api.ErrNone {
		return join(
			numbers("block").list(gear.Block(c.wheels, c.belts)),
			numbers("slip").list(gear.Slip(c.wheels, c.belts)),
		)
	}
	return nums("speeds").list(speeds, e)
}

func (c *Cutler) ratio(a arguments) reply {
	return nums("ratio").one(gear.Ratio(c.wheels, c.belts, a.numbers[0], a.numbers[1]))
}

func (c *Cutler) group(arguments) reply {
	primes, rows, e := gear.Group(c.wheels, c.belts)
	return join(numbers("primes").list(primes, e), nums("row").each(rows, e))
}
