package cutler

import (
	"bolster/api"
	"bolster/shaft"
)

// setPower lays a shaft without jobs and orders.
func (c *Cutler) setPower(a arguments) reply {
	n := a.numbers[0]
	if n < 1 || n > api.MaxPower {
		return done(api.ErrArg)
	}
	c.shaft = api.Shaft{Power: n}
	return done(api.OK)
}

func (c *Cutler) addJob(a arguments) reply {
	n := a.numbers
	return add(&c.shaft.Jobs, api.Job{From: n[0], To: n[1], Length: n[2], Power: n[3]}, api.MaxJobs)
}

func (c *Cutler) addOrder(a arguments) reply {
	return add(&c.shaft.Orders, api.Order{Before: a.numbers[0], After: a.numbers[1]}, api.MaxOrders)
}

func (c *Cutler) schedule(arguments) reply {
	first, e := shaft.First(c.shaft)
	if e == api.ErrNone {
		return c.refused()
	}
	short, end, f := shaft.Short(c.shaft)
	return join(
		numbers("first").list(first, e),
		numbers("short").list(short, f),
		numbers("end").one(end, f),
	)
}

// refused replies whether it is proved that there is no schedule.
func (c *Cutler) refused() reply {
	proof, e := shaft.Refuse(c.shaft)
	if e != api.OK {
		return done(e)
	}
	return texts("refused").one(yesOrNo(shaft.Proves(c.shaft, proof)))
}

func (c *Cutler) overfull(arguments) reply {
	from, to, e := shaft.Overfull(c.shaft)
	if e == api.ErrNone {
		return texts("fine").list(nil, api.OK)
	}
	return numbers("overfull").two(from, to, e)
}
