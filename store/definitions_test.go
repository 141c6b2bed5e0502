package store_test

import (
	"maps"
	"slices"
	"strconv"
	"strings"
	"testing"

	"bolster/api"
	"bolster/store"
)

// The rules of the chapter, written out. Nothing here knows how a store is written.

// shelf is a disk: of each file the bytes that are synced, and those that are not.
type shelf struct {
	synced, loose map[string]string
	down          bool
	left          int // acts up to and with the one that takes it down; below 1: none does
}

func newShelf() *shelf { return &shelf{synced: map[string]string{}, loose: map[string]string{}} }

func (s *shelf) has(name string) bool { _, ok := s.synced[name]; return ok }

// act counts an act.
func (s *shelf) act() api.Errno {
	s.left--
	if s.left == 0 {
		s.down = true
		return api.ErrDown
	}
	return api.OK
}

// hasNames reports whether all names have 1 to 16 bytes.
func hasNames(names ...string) bool {
	for _, name := range names {
		if name == "" || len(name) > 16 {
			return false
		}
	}
	return true
}

// bytes returns how many bytes there are together.
func (s *shelf) bytes() int {
	n := 0
	for name := range s.synced {
		n += len(s.synced[name]) + len(s.loose[name])
	}
	return n
}

func (s *shelf) append(name string, b []byte) api.Errno {
	files := len(s.synced)
	if !s.has(name) {
		files++
	}
	switch {
	case !hasNames(name):
		return api.ErrArg
	case s.down:
		return api.ErrDown
	case files > 60 || s.bytes()+len(b) > 262144:
		return api.ErrFull
	}
	s.synced[name] += ""
	s.loose[name] += string(b)
	return s.act()
}

// refusal returns the error for which something with a file is not done.
func (s *shelf) refusal(name string, isValid bool) api.Errno {
	switch {
	case !isValid:
		return api.ErrArg
	case s.down:
		return api.ErrDown
	case !s.has(name):
		return api.ErrNone
	}
	return api.OK
}

func (s *shelf) sync(name string) api.Errno {
	if e := s.refusal(name, hasNames(name)); e != api.OK {
		return e
	}
	e := s.act()
	if e == api.OK {
		s.synced[name] += s.loose[name]
		s.loose[name] = ""
	}
	return e
}

func (s *shelf) remove(name string) api.Errno {
	if e := s.refusal(name, hasNames(name)); e != api.OK {
		return e
	}
	delete(s.synced, name)
	delete(s.loose, name)
	return s.act()
}

func (s *shelf) rename(from, to string) api.Errno {
	if e := s.refusal(from, hasNames(from, to) && from != to); e != api.OK {
		return e
	}
	s.synced[to], s.loose[to] = s.synced[from], s.loose[from]
	delete(s.synced, from)
	delete(s.loose, from)
	return s.act()
}

func (s *shelf) restart(keep int) {
	s.down, s.left = false, 0
	for name, loose := range s.loose {
		s.synced[name] += loose[:max(keep, 0)%(len(loose)+1)]
		s.loose[name] = ""
	}
}

func (s *shelf) clone() *shelf {
	c := *s
	c.synced, c.loose = maps.Clone(s.synced), maps.Clone(s.loose)
	return &c
}

// isLike holds that a disk shows what the shelf does.
func (s *shelf) isLike(t *testing.T, d *store.Disk) {
	t.Helper()
	names := slices.Sorted(maps.Keys(s.synced))
	if got := d.Files(); !slices.Equal(got, names) {
		t.Fatalf("Files() = %q; want %q", got, names)
	}
	for _, name := range names {
		if got, want := string(d.Bytes(name)), s.synced[name]+s.loose[name]; got != want {
			t.Fatalf("Bytes(%q) = %q; want %q", name, got, want)
		}
	}
	if d.Down() != s.down {
		t.Fatalf("Down() = %t; want %t", d.Down(), s.down)
	}
}

// contents is keys and their values.
type contents map[string]string

// changed returns the contents after a group of changes.
func (c contents) changed(group []api.Change) contents {
	after := maps.Clone(c)
	for _, change := range group {
		if change.Delete {
			delete(after, change.Key)
		} else {
			after[change.Key] = change.Value
		}
	}
	return after
}

// entries returns what Scan returns of contents.
func (c contents) entries(from, to string) []api.Entry {
	var entries []api.Entry
	for _, key := range slices.Sorted(maps.Keys(c)) {
		if strings.Compare(key, from) >= 0 && (to == "" || strings.Compare(key, to) < 0) {
			entries = append(entries, api.Entry{Key: key, Value: c[key]})
		}
	}
	return entries
}

// history is the contents after each beginning of the groups of a store, the first of them
// without any; of these beginnings that of `synced` groups is synced.
type history struct {
	after  []contents
	synced int
}

func newHistory() history { return history{after: []contents{{}}} }

func (h *history) made() int { return len(h.after) - 1 }

func (h *history) now() contents { return h.after[h.made()] }

// add adds a group.
func (h *history) add(group []api.Change) { h.after = append(h.after, h.now().changed(group)) }

// found forgets all but the beginning that a store was found with, which counts as synced. It
// must be one that includes what was synced.
func (h *history) found(t *testing.T, s *store.Store) {
	t.Helper()
	got, e := s.Scan(-1, "", "")
	if e != api.OK {
		t.Fatalf("Scan: %d", e)
	}
	for n := h.made(); n >= h.synced; n-- {
		if slices.Equal(got, h.after[n].entries("", "")) {
			h.after, h.synced = h.after[:n+1], n
			return
		}
	}
	t.Fatalf("found %q; %d groups of %d were synced", got, h.synced, h.made())
}

// play is a store whose history is known.
type play struct {
	history
	t     *testing.T
	disk  *store.Disk
	store *store.Store
	views map[int]contents
	seen  int // how many views there were since it was opened
	steps string
}

// newPlay opens a store on a new disk.
func newPlay(t *testing.T) *play {
	p := &play{history: newHistory(), t: t, disk: store.NewDisk()}
	p.opened(store.Open(p.disk))
	return p
}

// opened takes a store that was opened.
func (p *play) opened(s *store.Store, e api.Errno) {
	p.t.Helper()
	if e != api.OK || s == nil {
		p.t.Fatalf("%s: Open: %v, %d", p.steps, s, e)
	}
	p.store, p.views, p.seen = s, map[int]contents{}, 0
	p.found(p.t, s)
	p.shows()
}

// shows holds that Get and Scan return what they must, now and in all views.
func (p *play) shows() {
	p.t.Helper()
	p.showsOf(-1, p.now())
	for view := range api.MaxViews + p.seen {
		if c, ok := p.views[view]; ok {
			p.showsOf(view, c)
		} else if _, e := p.store.Scan(view, "", ""); e != api.ErrArg {
			p.t.Fatalf("%s: Scan of no view %d: %d", p.steps, view, e)
		}
	}
	if p.store.Broken() || p.store.Disk() != p.disk {
		p.t.Fatalf("%s: Broken, or another disk", p.steps)
	}
}

// showsOf holds that a view, or -1, has contents.
func (p *play) showsOf(view int, c contents) {
	p.t.Helper()
	for _, bounds := range [][2]string{{"", ""}, {"b", "d"}, {"c", ""}, {"", "c"}, {"d", "b"}} {
		got, e := p.store.Scan(view, bounds[0], bounds[1])
		if want := c.entries(bounds[0], bounds[1]); e != api.OK || !slices.Equal(got, want) {
			p.t.Fatalf("%s: Scan(%d, %q): %q, %d; want %q", p.steps, view, bounds, got, e, want)
		}
	}
	for _, key := range []string{"#", "a", "b", "c", "d", "e", "f"} {
		want, ok := c[key]
		value, e := p.store.Get(view, key)
		if ok != (e == api.OK) || !ok && e != api.ErrNone || value != want {
			p.t.Fatalf("%s: Get(%d, %q): %q, %d; want %q, %t", p.steps, view, key, value, e, want, ok)
		}
	}
}

// isShut holds that a store is broken or closed, and shows what it did before.
func (p *play) isShut(isBroken bool) {
	p.t.Helper()
	s := p.store
	_, e := s.View()
	errors := []api.Errno{s.Apply(change("a", "1")), s.Sync(), s.Flush(), s.Compact(), s.Drop(0), e}
	for i, e := range errors {
		if e != api.ErrState {
			p.t.Fatalf("%s: error %d of %v", p.steps, i, errors)
		}
	}
	if s.Broken() != isBroken {
		p.t.Fatalf("%s: Broken() = %t", p.steps, s.Broken())
	}
	p.showsOf(-1, p.now())
	for view, c := range p.views {
		p.showsOf(view, c)
	}
}

// change returns a group that sets a key to a value.
func change(key, value string) []api.Change { return []api.Change{{Key: key, Value: value}} }

// groupOf returns a group that no other number has: it sets `#` to the number, and does some more.
func groupOf(number int) []api.Change {
	keys := []string{"a", "b", "c", "d", "e", "f"}
	group := []api.Change{{Key: "#", Value: strconv.Itoa(number)}}
	for i := range number % 4 {
		group = append(group,
			api.Change{Key: keys[(number+3*i)%6], Value: strings.Repeat("x", number%7) + strconv.Itoa(i)},
			api.Change{Key: keys[(number*5+i)%6], Delete: true, Value: "plays no part"})
	}
	return group
}

// step does what a letter says: apply, sync, flush, compact, view, drop, open. It returns OK, or
// ErrDown if the disk went down.
func (p *play) step(letter byte) api.Errno {
	p.t.Helper()
	p.steps += string(letter)
	switch letter {
	case 'a':
		return p.apply(groupOf(p.made() + 1))
	case 's':
		return p.written(p.store.Sync())
	case 'f':
		return p.written(p.store.Flush())
	case 'c':
		return p.written(p.store.Compact())
	case 'v':
		p.view()
	case 'd':
		p.drop()
	case 'o':
		return p.reopen()
	}
	return api.OK
}

// apply makes a group.
func (p *play) apply(group []api.Change) api.Errno {
	p.t.Helper()
	e := p.store.Apply(group)
	if e == api.ErrDown {
		p.isShut(true)
	}
	p.add(group) // if the disk went down, it may be there
	return p.checked(e)
}

// written takes what Sync, Flush or Compact returned.
func (p *play) written(e api.Errno) api.Errno {
	p.t.Helper()
	if e == api.ErrDown {
		p.isShut(true)
	}
	if e == api.OK {
		p.synced = p.made()
	}
	return p.checked(e)
}

// view makes a view, if there can be one more.
func (p *play) view() {
	p.t.Helper()
	view, e := p.store.View()
	if len(p.views) >= 8 {
		if e != api.ErrFull || view != 0 {
			p.t.Fatalf("%s: View: %d, %d", p.steps, view, e)
		}
		return
	}
	if e != api.OK || view != p.seen {
		p.t.Fatalf("%s: View: %d, %d; want %d", p.steps, view, e, p.seen)
	}
	p.views[view] = p.now()
	p.seen++
	p.shows()
}

// drop removes the view with the least number, if there is one.
func (p *play) drop() {
	p.t.Helper()
	for view := range p.seen {
		if _, ok := p.views[view]; ok {
			if e := p.store.Drop(view); e != api.OK {
				p.t.Fatalf("%s: Drop(%d): %d", p.steps, view, e)
			}
			delete(p.views, view)
			break
		}
	}
	p.shows()
}

// reopen opens the disk again, without a restart.
func (p *play) reopen() api.Errno {
	p.t.Helper()
	s, e := store.Open(p.disk)
	p.isShut(false)
	if e == api.OK {
		p.synced = p.made() // all that was made is found
		p.opened(s, e)
	}
	return p.checked(e)
}

// checked holds that an error is what the disk says, and that the store shows what it must.
func (p *play) checked(e api.Errno) api.Errno {
	p.t.Helper()
	if e != api.OK && e != api.ErrDown || (e == api.ErrDown) != p.disk.Down() {
		p.t.Fatalf("%s: %d; down: %t", p.steps, e, p.disk.Down())
	}
	if e == api.OK {
		p.shows()
	}
	return e
}

// rise restarts the disk and opens the store; if n is 1 or more, the disk goes down again in the
// n-th act of that, unless there are fewer. It reports whether it went down.
func (p *play) rise(keep, n int) bool {
	p.t.Helper()
	p.steps += "!"
	p.disk.Restart(keep)
	p.disk.Arm(n)
	s, e := store.Open(p.disk)
	if e == api.OK {
		p.disk.Arm(0)
		p.opened(s, e)
		return false
	}
	if e != api.ErrDown || s != nil || !p.disk.Down() {
		p.t.Fatalf("%s: Open: %v, %d", p.steps, s, e)
	}
	p.disk.Restart(keep)
	p.opened(store.Open(p.disk))
	return true
}
