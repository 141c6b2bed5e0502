package cutler

import (
	"bolster/api"
	"bolster/ring"
)

func (c *Cutler) setRing(a arguments) reply {
	r, e := ring.New(a.numbers, a.texts[0] == "peterson")
	if e == api.OK {
		c.ring, c.workers = r, len(a.numbers)
	}
	return done(e)
}

func (c *Cutler) start(a arguments) reply { return done(c.ring.Start(a.numbers[0])) }

func (c *Cutler) pass(a arguments) reply { return done(c.ring.Deliver(a.numbers[0])) }

func (c *Cutler) leaders(arguments) reply {
	if c.ring == nil {
		return done(api.ErrState)
	}
	var leaders []int
	for i := range c.workers {
		leaders = append(leaders, c.ring.Leader(i))
	}
	return join(
		numbers("leaders").list(leaders, api.OK),
		numbers("sent").one(c.ring.Sent(), api.OK),
	)
}

func (c *Cutler) setWork(a arguments) reply {
	w, e := ring.Begin(a.numbers[0])
	if e == api.OK {
		c.work = w
	}
	return done(e)
}

func (c *Cutler) task(a arguments) reply { return done(c.work.Send(a.numbers[0], a.numbers[1])) }

func (c *Cutler) idle(a arguments) reply { return done(c.work.Idle(a.numbers[0])) }

func (c *Cutler) deliver(a arguments) reply { return done(c.work.Deliver(a.numbers[0])) }

func (c *Cutler) ended(arguments) reply {
	if c.work == nil {
		return done(api.ErrState)
	}
	answer, e := yesOrNo(c.work.Ended(), api.OK)
	return texts(answer).list(nil, e)
}
