package store

import (
	"cmp"
	"slices"
	"strings"

	"bolster/api"
)

// maxRuns is the number of runs from which on they are merged when there would be one more.
const maxRuns = 8

// batch is the changes of the groups with the numbers from `from` up to and with `to`. It is
// settled if its keys rise, so that there is one change of a key: what remains of all.
type batch struct {
	from, to int
	changes  []api.Change
}

// hasGroups reports whether there are any groups.
func (b batch) hasGroups() bool { return b.from <= b.to }

// isSettled reports whether the keys rise.
func (b batch) isSettled() bool {
	for i := 1; i < len(b.changes); i++ {
		if b.changes[i-1].Key >= b.changes[i].Key {
			return false
		}
	}
	return true
}

// find returns the change of a key, if a settled batch has one.
func (b batch) find(key string) (api.Change, bool) {
	i, ok := slices.BinarySearchFunc(b.changes, key, func(c api.Change, key string) int {
		return strings.Compare(c.Key, key)
	})
	if !ok {
		return api.Change{}, false
	}
	return b.changes[i], true
}

// merged returns a settled batch of all groups of batches that follow one another.
func merged(batches ...batch) batch {
	result := batch{from: batches[0].from, to: batches[len(batches)-1].to}
	var all []api.Change
	for _, b := range batches {
		all = append(all, b.changes...)
	}
	slices.SortStableFunc(all, func(a, b api.Change) int { return cmp.Compare(a.Key, b.Key) })
	for i, c := range all {
		if i+1 == len(all) || all[i+1].Key != c.Key {
			result.changes = append(result.changes, c)
		}
	}
	return result
}

// tree is the runs of a store, the oldest first, and at the end what is in memory: all of them
// settled, and each with the groups that follow those of the one before it. The oldest run
// deletes nothing. A tree never changes, so that it can be shared with views and clones.
type tree []batch

// planted returns the tree of runs, with nothing in memory.
func planted(runs ...batch) tree {
	last := 0
	if len(runs) > 0 {
		last = runs[len(runs)-1].to
	}
	return append(tree(slices.Clone(runs)), batch{from: last + 1, to: last})
}

// runs returns all but what is in memory.
func (t tree) runs() []batch { return t[:len(t)-1] }

// memory returns what is in memory.
func (t tree) memory() batch { return t[len(t)-1] }

// group returns changes as the next group.
func (t tree) group(changes []api.Change) batch {
	number := t.memory().to + 1
	b := batch{from: number, to: number}
	for _, c := range changes {
		kept := api.Change{Key: strings.Clone(c.Key), Delete: c.Delete}
		if !c.Delete {
			kept.Value = strings.Clone(c.Value)
		}
		b.changes = append(b.changes, kept)
	}
	return b
}

// with returns the tree with a group more in memory.
func (t tree) with(group batch) tree {
	return append(tree(slices.Clone(t.runs())), merged(t.memory(), group))
}

// flushed returns the tree with what is in memory as a run. If there are too many runs, they are
// merged with it; if there are none, too, since it becomes the oldest.
func (t tree) flushed() tree {
	if n := len(t.runs()); n == 0 || n >= maxRuns {
		return t.compacted()
	}
	return planted(t...)
}

// compacted returns the tree with one run, without deleted keys.
func (t tree) compacted() tree {
	b := merged(t...)
	b.changes = slices.DeleteFunc(b.changes, func(c api.Change) bool { return c.Delete })
	return planted(b)
}

// newest returns the newest run.
func (t tree) newest() batch { return t[len(t)-2] }

// find returns the value of a key, if it is there.
func (t tree) find(key string) (string, bool) {
	for _, b := range slices.Backward(t) {
		if c, ok := b.find(key); ok {
			return c.Value, !c.Delete
		}
	}
	return "", false
}

// scan returns the entries from a key up to, but not with, another one, if that is not empty.
func (t tree) scan(from, to string) []api.Entry {
	var entries []api.Entry
	for _, c := range merged(t...).changes {
		if !c.Delete && c.Key >= from && (to == "" || c.Key < to) {
			entry := api.Entry{Key: strings.Clone(c.Key), Value: strings.Clone(c.Value)}
			entries = append(entries, entry)
		}
	}
	return entries
}
