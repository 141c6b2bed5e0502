package store

import (
	"slices"
	"strings"

	"bolster/api"
)

// maxName is the number of bytes that a file's name may have.
const maxName = 16

// Disk is a disk of files.
type Disk struct {
	self  *Disk // tells a disk that was returned from a copy of its fields
	files map[string]*file
	down  bool
	armed int    // how many acts are left with the one that takes it down; 0 if none does
	store *Store // the store of it that is not closed, if there is one
}

// file is bytes on a disk; the first ones of them are synced.
type file struct {
	bytes  []byte
	synced int
}

// NewDisk returns a disk without files.
func NewDisk() *Disk {
	d := &Disk{files: map[string]*file{}}
	d.self = d
	return d
}

// isThere reports whether the disk was returned by NewDisk or Clone.
func (d *Disk) isThere() bool { return d != nil && d.self == d }

// Append appends bytes to a file.
func (d *Disk) Append(name string, b []byte) api.Errno {
	if e := d.refusal(isName(name)); e != api.OK {
		return e
	}
	f := d.files[name]
	if f == nil && len(d.files) >= api.MaxFiles || d.used("")+len(b) > api.MaxDisk {
		return api.ErrFull
	}
	if f == nil {
		f = &file{}
		d.files[strings.Clone(name)] = f
	}
	f.bytes = append(f.bytes, b...)
	return d.act()
}

// Sync syncs a file.
func (d *Disk) Sync(name string) api.Errno {
	if e := d.refusal(isName(name)); e != api.OK {
		return e
	}
	f := d.files[name]
	if f == nil {
		return api.ErrNone
	}
	if e := d.act(); e != api.OK {
		return e
	}
	f.synced = len(f.bytes)
	return api.OK
}

// Remove removes a file.
func (d *Disk) Remove(name string) api.Errno {
	if e := d.refusal(isName(name)); e != api.OK {
		return e
	}
	if !d.has(name) {
		return api.ErrNone
	}
	delete(d.files, name)
	return d.act()
}

// Rename renames a file.
func (d *Disk) Rename(from, to string) api.Errno {
	if e := d.refusal(isName(from) && isName(to) && from != to); e != api.OK {
		return e
	}
	f := d.files[from]
	if f == nil {
		return api.ErrNone
	}
	delete(d.files, from)
	d.files[strings.Clone(to)] = f
	return d.act()
}

// refusal returns the error for which an act is refused whatever files there are.
func (d *Disk) refusal(valid bool) api.Errno {
	switch {
	case !d.isThere():
		return api.ErrState
	case !valid:
		return api.ErrArg
	case d.down:
		return api.ErrDown
	}
	return api.OK
}

// act counts an act, and returns ErrDown if it takes the disk down.
func (d *Disk) act() api.Errno {
	if d.armed == 0 {
		return api.OK
	}
	d.armed--
	if d.armed > 0 {
		return api.OK
	}
	d.down = true
	return api.ErrDown
}

// isName reports whether a file can have a name.
func isName(name string) bool { return len(name) >= 1 && len(name) <= maxName }

// has reports whether there is a file of a name.
func (d *Disk) has(name string) bool { return d.files[name] != nil }

// used returns how many bytes the files have whose names begin with a prefix.
func (d *Disk) used(prefix string) int {
	n := 0
	for name, f := range d.files {
		if strings.HasPrefix(name, prefix) {
			n += len(f.bytes)
		}
	}
	return n
}

// isSynced reports whether all bytes of a file are synced.
func (d *Disk) isSynced(name string) bool {
	f := d.files[name]
	return f.synced == len(f.bytes)
}

// Arm lets the n-th act from now on take the disk down.
func (d *Disk) Arm(n int) {
	if d.isThere() {
		d.armed = max(n, 0)
	}
}

// Restart takes the disk up again.
func (d *Disk) Restart(keep int) {
	if !d.isThere() {
		return
	}
	d.down, d.armed, d.store = false, 0, nil
	for _, f := range d.files {
		unsynced := len(f.bytes) - f.synced
		f.synced += max(keep, 0) % (unsynced + 1)
		f.bytes = f.bytes[:f.synced]
	}
}

// Files returns the names of the files.
func (d *Disk) Files() []string {
	if !d.isThere() {
		return nil
	}
	var names []string
	for name := range d.files {
		names = append(names, strings.Clone(name))
	}
	slices.Sort(names)
	return names
}

// Bytes returns the bytes of a file.
func (d *Disk) Bytes(name string) []byte {
	if !d.isThere() || !d.has(name) {
		return nil
	}
	return slices.Clone(d.files[name].bytes)
}

// Down reports whether the disk is down.
func (d *Disk) Down() bool { return d.isThere() && d.down }

// Clone returns a disk in the same state.
func (d *Disk) Clone() *Disk {
	if !d.isThere() {
		return nil
	}
	c := NewDisk()
	c.down, c.armed = d.down, d.armed
	for name, f := range d.files {
		c.files[name] = &file{bytes: slices.Clone(f.bytes), synced: f.synced}
	}
	return c
}
