package store

import (
	"cmp"
	"slices"
	"strconv"
	"strings"

	"bolster/api"
)

// The files of a store: a log of the groups that are in memory, runs, and a new file that is to
// become a run. A run has the number of its last group in its name.
const (
	prefix  = "store."
	logName = prefix + "log"
	newName = prefix + "new"
)

// runName returns the name of a run's file.
func runName(b batch) string { return prefix + strconv.Itoa(b.to) }

// load returns the tree that the files of a disk hold, if they are those of a store.
func load(d *Disk) (tree, bool) {
	var runs, groups []batch
	for _, name := range d.Files() {
		list, form := read(d.Bytes(name))
		switch {
		case form == wrong:
			return nil, false
		case name == newName: // The disk went down before it was needed.
		case name == logName:
			groups = list
		case form == cut || !isRun(name, list):
			return nil, false
		default:
			runs = append(runs, list[0])
		}
	}
	chain, ok := chained(runs)
	if !ok {
		return nil, false
	}
	return planted(chain...).replayed(groups)
}

// isRun reports whether the file of a name holds batches as a run does.
func isRun(name string, list []batch) bool {
	return len(list) == 1 && list[0].isSettled() && name == runName(list[0])
}

// chained returns the runs that have all groups once, the oldest first, if there are such. What
// a run was merged from may still be there besides.
func chained(runs []batch) ([]batch, bool) {
	slices.SortFunc(runs, func(a, b batch) int { return cmp.Compare(b.to, a.to) })
	var chain []batch
	before := 0
	for i, b := range runs {
		if i == 0 || b.to == before {
			chain = append(chain, b)
			before = b.from - 1
		}
	}
	slices.Reverse(chain)
	return chain, before == 0
}

// replayed returns the tree with the groups of a log, if they follow one another. Those that are
// in a run are in the log, too, if the disk went down before it was removed.
func (t tree) replayed(groups []batch) (tree, bool) {
	for _, g := range groups {
		next := t.memory().to + 1
		switch {
		case g.to == next:
			t = t.with(g)
		case g.to > next:
			return nil, false
		}
	}
	return t, true
}

// putRun writes a run. Its file gets its name at once, and only when all of it is synced.
func putRun(d *Disk, b batch) api.Errno {
	if d.has(newName) {
		if e := d.Remove(newName); e != api.OK {
			return e
		}
	}
	if e := d.Append(newName, b.written()); e != api.OK {
		return e
	}
	if e := d.Sync(newName); e != api.OK {
		return e
	}
	return d.Rename(newName, runName(b))
}

// tidy removes the files of a store that its tree does not need, when nothing is in memory.
func tidy(d *Disk, t tree) api.Errno {
	var needed []string
	for _, b := range t.runs() {
		needed = append(needed, runName(b))
	}
	for _, name := range d.Files() {
		if !strings.HasPrefix(name, prefix) || slices.Contains(needed, name) {
			continue
		}
		if e := d.Remove(name); e != api.OK {
			return e
		}
	}
	return api.OK
}

// syncRuns syncs what is not synced of runs: their files may have been copied to the disk.
func syncRuns(d *Disk, t tree) api.Errno {
	for _, b := range t.runs() {
		if name := runName(b); !d.isSynced(name) {
			if e := d.Sync(name); e != api.OK {
				return e
			}
		}
	}
	return api.OK
}

// fits reports whether a store may have so many bytes: what is written anew, so that the disk may
// go down meanwhile, is there twice for a time.
func fits(bytes int) bool { return 2*bytes <= api.MaxDisk }
