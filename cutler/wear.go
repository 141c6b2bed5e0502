package cutler

import (
	"strconv"

	"bolster/api"
	"bolster/wear"
)

func (c *Cutler) setLives(a arguments) reply {
	c.lives = nil
	for _, text := range a.texts {
		c.lives = append(c.lives, api.Num(text))
	}
	return done(api.OK)
}

func (c *Cutler) renew(a arguments) reply {
	return nums("renew").list(wear.Renew(c.lives, a.numbers[0]))
}

func (c *Cutler) mean(arguments) reply {
	mean, span, e := wear.Mean(c.lives)
	return texts("mean").two(string(mean), strconv.Itoa(span), e)
}

func (c *Cutler) spares(a arguments) reply {
	return nums("spares").one(wear.Spares(c.lives, a.numbers[0], a.numbers[1]))
}

func (c *Cutler) replace(a arguments) reply {
	age, rate, e := wear.Replace(c.lives, api.Num(a.texts[0]), api.Num(a.texts[1]))
	return texts("replace").two(strconv.Itoa(age), string(rate), e)
}
