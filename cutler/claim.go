package cutler

import (
	"bolster/api"
	"bolster/claim"
)

// setClaims begins a dispute without attacks.
func (c *Cutler) setClaims(a arguments) reply {
	n := a.numbers[0]
	if n < 1 || n > api.MaxClaims {
		return done(api.ErrArg)
	}
	c.claims, c.attacks = n, nil
	return done(api.OK)
}

func (c *Cutler) addAttack(a arguments) reply {
	return add(&c.attacks, api.Pair{A: a.numbers[0], B: a.numbers[1]}, api.MaxAttacks)
}

func (c *Cutler) granted(arguments) reply {
	return join(
		numbers("granted").list(claim.Granted(c.claims, c.attacks)),
		numbers("ideal").list(claim.Ideal(c.claims, c.attacks)),
	)
}

func (c *Cutler) preferred(arguments) reply {
	return numbers("set").each(claim.Preferred(c.claims, c.attacks))
}

func (c *Cutler) stable(arguments) reply {
	return numbers("set").each(claim.Stable(c.claims, c.attacks))
}

func (c *Cutler) complete(arguments) reply {
	return numbers("set").each(claim.Complete(c.claims, c.attacks))
}

func (c *Cutler) odd(arguments) reply {
	claims, e := claim.Odd(c.claims, c.attacks)
	if e == api.ErrNone {
		return texts("fine").list(nil, api.OK)
	}
	return numbers("odd").list(claims, e)
}
