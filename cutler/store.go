package cutler

import (
	"bolster/api"
	"bolster/store"
)

// apply makes one change.
func (c *Cutler) apply(change api.Change) reply {
	return done(c.store.Apply([]api.Change{change}))
}

func (c *Cutler) put(a arguments) reply {
	key, value := a.texts[0], a.texts[1]
	if value == "-" {
		value = ""
	}
	return c.apply(api.Change{Key: key, Value: value})
}

func (c *Cutler) remove(a arguments) reply {
	return c.apply(api.Change{Key: a.texts[0], Delete: true})
}

func (c *Cutler) get(a arguments) reply {
	return texts("value").one(c.store.Get(a.numbers[0], a.texts[0]))
}

func (c *Cutler) scan(a arguments) reply {
	entries, e := c.store.Scan(a.numbers[0], "", "")
	var rows [][]string
	for _, entry := range entries {
		rows = append(rows, []string{entry.Key, entry.Value})
	}
	return texts("entry").each(rows, e)
}

func (c *Cutler) view(arguments) reply { return numbers("view").one(c.store.View()) }

func (c *Cutler) drop(a arguments) reply { return done(c.store.Drop(a.numbers[0])) }

func (c *Cutler) sync(arguments) reply { return done(c.store.Sync()) }

func (c *Cutler) flush(arguments) reply { return done(c.store.Flush()) }

func (c *Cutler) compact(arguments) reply { return done(c.store.Compact()) }

func (c *Cutler) arm(a arguments) reply {
	c.disk.Arm(a.numbers[0])
	return done(api.OK)
}

func (c *Cutler) restart(a arguments) reply {
	c.disk.Restart(a.numbers[0])
	return done(api.OK)
}

// open opens the store. (If it cannot be opened there is none, and what is asked of it then
// is refused by its methods.)
func (c *Cutler) open(arguments) reply {
	var e api.Errno
	c.store, e = store.Open(c.disk)
	return done(e)
}
