package cutler

import (
	"bolster/api"
	"bolster/water"
)

func (c *Cutler) addPlace(a arguments) reply {
	return join(
		add(&c.flow, a.numbers[0], api.MaxPlaces),
		add(&c.gains, a.numbers[1:], api.MaxPlaces),
	)
}

func (c *Cutler) river(arguments) reply {
	use, worth, e := water.Best(c.flow, c.gains)
	return join(
		numbers("best").list(use, e),
		numbers("worth").one(worth, e),
		numbers("shares").list(water.Shares(c.flow, c.gains)),
		numbers("prices").list(water.Prices(c.flow, c.gains)),
	)
}

func (c *Cutler) alone(a arguments) reply {
	return numbers("worth").one(water.Alone(c.flow, c.gains, a.numbers))
}

func (c *Cutler) aspires(a arguments) reply {
	return numbers("worth").one(water.Aspires(c.flow, c.gains, a.numbers))
}

func (c *Cutler) calls(a arguments) reply {
	half := len(a.numbers) / 2
	if len(a.numbers) != 2*half {
		return done(api.ErrForm)
	}
	return numbers("use").list(water.Calls(c.flow, a.numbers[:half], a.numbers[half:]))
}
