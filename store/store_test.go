package store_test

import (
	"fmt"
	"slices"
	"strings"
	"testing"

	"bolster/api"
	"bolster/store"
)

// open opens a disk that can be opened.
func open(t *testing.T, d *store.Disk) *store.Store {
	t.Helper()
	s, e := store.Open(d)
	if e != api.OK || s == nil {
		t.Fatalf("Open: %v, %d", s, e)
	}
	return s
}

// has holds what Scan returns of a view.
func has(t *testing.T, s *store.Store, view int, want string) {
	t.Helper()
	entries, e := s.Scan(view, "", "")
	if got := joined(entries); e != api.OK || got != want {
		t.Errorf("Scan(%d): %q, %d; want %q", view, got, e, want)
	}
}

// joined returns entries as a string.
func joined(entries []api.Entry) string {
	var words []string
	for _, entry := range entries {
		words = append(words, entry.Key+"="+entry.Value)
	}
	return strings.Join(words, " ")
}

// apply makes a group that can be made: `a=1 -b` sets a, and deletes b.
func apply(t *testing.T, s *store.Store, words string) {
	t.Helper()
	if e := s.Apply(group(words)); e != api.OK {
		t.Fatalf("Apply(%s): %d", words, e)
	}
}

// group returns the changes that words say.
func group(words string) []api.Change {
	var changes []api.Change
	for word := range strings.FieldsSeq(words) {
		key, value, isSet := strings.Cut(word, "=")
		c := api.Change{Key: key, Value: value}
		if !isSet {
			c = api.Change{Key: key[1:], Delete: true}
		}
		changes = append(changes, c)
	}
	return changes
}

// The examples of the chapter.
func TestExamples(t *testing.T) {
	d := store.NewDisk()
	s := open(t, d)
	apply(t, s, "a=1 b=2")
	if value, e := s.Get(-1, "a"); value != "1" || e != api.OK {
		t.Errorf("Get(-1, a): %q, %d", value, e)
	}
	has(t, s, -1, "a=1 b=2")
	if view, e := s.View(); view != 0 || e != api.OK {
		t.Errorf("View: %d, %d", view, e)
	}
	apply(t, s, "-a")
	if value, e := s.Get(-1, "a"); value != "" || e != api.ErrNone {
		t.Errorf("Get(-1, a): %q, %d", value, e)
	}
	if value, e := s.Get(0, "a"); value != "1" || e != api.OK {
		t.Errorf("Get(0, a): %q, %d", value, e)
	}
	isError(t, "Sync", s.Sync(), api.OK)
	apply(t, s, "c=3")
	d.Restart(0)
	has(t, open(t, d), -1, "b=2") // c is not synced by this program
}

// The changes of a group are made in their order, and deleting what is not there is no error.
func TestGroups(t *testing.T) {
	s := open(t, store.NewDisk())
	apply(t, s, "a=1 a=2 -b b=3 c=4 -c d=5 -d d=6")
	has(t, s, -1, "a=2 b=3 d=6")
	apply(t, s, "-a -a -zz a=7")
	has(t, s, -1, "a=7 b=3 d=6")
}

// Keys are compared byte by byte, and bounds need not be keys.
func TestScanBounds(t *testing.T) {
	s := open(t, store.NewDisk())
	apply(t, s, "b=1 a=2 ab=3 B=4 \xff=5 é=6 aa=7")
	isError(t, "Flush", s.Flush(), api.OK)
	apply(t, s, "\x00=8 -aa")
	has(t, s, -1, "\x00=8 B=4 a=2 ab=3 b=1 é=6 \xff=5")
	for _, c := range []struct{ from, to, want string }{
		{"a", "b", "a=2 ab=3"}, {"a\x00", "b", "ab=3"}, {"", "a", "\x00=8 B=4"}, {"b", "", "b=1 é=6 \xff=5"},
		{"b", "b", ""}, {"b", "a", ""}, {"\xff\x00", "", ""}, {strings.Repeat("a", 100), "b\x00", "ab=3 b=1"},
		{"aa", "aaa", ""},
	} {
		entries, e := s.Scan(-1, c.from, c.to)
		if got := joined(entries); e != api.OK || got != c.want {
			t.Errorf("Scan(%q, %q): %q, %d; want %q", c.from, c.to, got, e, c.want)
		}
	}
}

// The greatest group, key and value are fine, and a deletion may have any value.
func TestGreatest(t *testing.T) {
	s := open(t, store.NewDisk())
	key, value := strings.Repeat("k", api.MaxKey), strings.Repeat("\x00", api.MaxValue)
	changes := slices.Repeat(change(key, value), 19)
	changes = append(changes, api.Change{Key: "x", Value: strings.Repeat("v", 10000), Delete: true})
	isError(t, "Apply", s.Apply(changes), api.OK)
	for range 2 {
		if got, e := s.Get(-1, key); got != value || e != api.OK {
			t.Errorf("Get: %q, %d", got, e)
		}
		s = open(t, s.Disk())
	}
	apply(t, s, "empty=")
	if value, e := s.Get(-1, "empty"); value != "" || e != api.OK {
		t.Errorf("Get: %q, %d", value, e)
	}
}

// Numbers of views are not used again until the store is opened again.
func TestViewNumbers(t *testing.T) {
	s := open(t, store.NewDisk())
	for want := range api.MaxViews {
		if view, e := s.View(); view != want || e != api.OK {
			t.Errorf("View: %d, %d; want %d", view, e, want)
		}
	}
	isError(t, "Drop", s.Drop(7), api.OK)
	isError(t, "Drop", s.Drop(7), api.ErrArg)
	isError(t, "Drop", s.Drop(2), api.OK)
	for _, want := range []int{8, 9} {
		if view, e := s.View(); view != want || e != api.OK {
			t.Errorf("View: %d, %d; want %d", view, e, want)
		}
	}
	if _, e := s.View(); e != api.ErrFull {
		t.Errorf("View: %d", e)
	}
	if _, e := s.Get(2, "a"); e != api.ErrArg {
		t.Errorf("Get: %d", e)
	}
	s = open(t, s.Disk())
	if _, e := s.Scan(0, "", ""); e != api.ErrArg {
		t.Errorf("a view is there: %d", e)
	}
	if view, e := s.View(); view != 0 || e != api.OK {
		t.Errorf("View: %d, %d", view, e)
	}
}

// The functions that do no acts.
func TestNoActs(t *testing.T) {
	s := open(t, store.NewDisk())
	apply(t, s, "a=1")
	s.Disk().Arm(1)
	s.Get(-1, "a")
	s.Scan(-1, "", "")
	s.View()
	s.Drop(0)
	s.Broken()
	if c := s.Clone(); s.Disk().Down() || c.Disk().Down() {
		t.Error("it went down")
	}
	isError(t, "Sync", s.Sync(), api.ErrDown)
}

// isShut holds that a store is open no more, and whether it is broken.
func isShut(t *testing.T, s *store.Store, isBroken bool, want string) {
	t.Helper()
	for range 2 {
		_, view := s.View()
		for _, e := range []api.Errno{s.Apply(nil), s.Sync(), s.Flush(), s.Compact(), view, s.Drop(9)} {
			isError(t, "a call", e, api.ErrState)
		}
		if s.Broken() != isBroken || s.Disk() == nil {
			t.Errorf("Broken() = %t", s.Broken())
		}
		has(t, s, -1, want)
		has(t, s, 0, "")
		s = s.Clone()
	}
}

// writers returns calls that do acts.
func writers() map[string]func(*store.Store) api.Errno {
	return map[string]func(*store.Store) api.Errno{
		"Apply":   func(s *store.Store) api.Errno { return s.Apply(change("b", "2")) },
		"Sync":    (*store.Store).Sync,
		"Flush":   (*store.Store).Flush,
		"Compact": (*store.Store).Compact,
	}
}

// A store whose disk goes down is broken, and so is its clone, also when it is closed besides.
func TestBroken(t *testing.T) {
	for name, call := range writers() {
		s := open(t, store.NewDisk())
		s.View()
		apply(t, s, "a=1")
		s.Disk().Arm(1)
		isError(t, name, call(s), api.ErrDown)
		isShut(t, s, true, "a=1")
		s.Disk().Restart(0)
		isShut(t, s, true, "a=1")
		open(t, s.Disk())
		isShut(t, s, true, "a=1")
	}
}

// A disk that went down by other acts: all that would do acts returns ErrDown, and the store is
// broken then.
func TestDownBefore(t *testing.T) {
	for name, call := range writers() {
		for _, words := range []string{"", "a=1"} {
			s := open(t, store.NewDisk())
			s.View()
			if words != "" {
				apply(t, s, words)
			}
			s.Disk().Arm(1)
			s.Disk().Append("other", nil)
			if s.Broken() {
				t.Error("broken by another act")
			}
			isError(t, name, call(s), api.ErrDown)
			isShut(t, s, true, words)
		}
	}
}

// When a store counts as closed.
func TestClosed(t *testing.T) {
	s := open(t, store.NewDisk())
	s.View()
	apply(t, s, "a=1")
	isError(t, "Sync", s.Sync(), api.OK)
	c := s.Clone()
	s.Disk().Restart(0)
	isShut(t, s, false, "a=1")
	apply(t, c, "b=2")

	s = open(t, s.Disk())
	s.View()
	isError(t, "foreign file", s.Disk().Append("x", nil), api.OK)
	if _, e := store.Open(s.Disk()); e != api.ErrForm {
		t.Errorf("Open: %d", e)
	}
	s.Disk().Remove("x")
	apply(t, s, "c=3")
	open(t, s.Disk())
	_, e := s.Scan(0, "", "")
	isError(t, "Scan", e, api.OK)
	isError(t, "Apply", s.Apply(group("d=4")), api.ErrState)
	has(t, s, -1, "a=1 c=3")
	has(t, s, 0, "a=1")
	has(t, open(t, s.Disk()), -1, "a=1 c=3")
}

// An Open in which the disk goes down counts, one of a disk that is down does not.
func TestClosedByOpen(t *testing.T) {
	s := open(t, store.NewDisk())
	s.View()
	apply(t, s, "a=1")
	s.Disk().Arm(1)
	if again, e := store.Open(s.Disk()); again != nil || e != api.ErrDown {
		t.Errorf("Open: %v, %d", again, e)
	}
	isShut(t, s, false, "a=1")

	s = open(t, store.NewDisk())
	s.View()
	apply(t, s, "a=1")
	s.Disk().Arm(1)
	s.Disk().Append("x", nil)
	if again, e := store.Open(s.Disk()); again != nil || e != api.ErrDown {
		t.Errorf("Open: %v, %d", again, e)
	}
	if _, e := s.View(); e != api.OK {
		t.Errorf("View: %d", e)
	}
	isError(t, "Sync", s.Sync(), api.ErrDown)
}

// A clone has the same views, and a disk of its own.
func TestClone(t *testing.T) {
	s := open(t, store.NewDisk())
	apply(t, s, "a=1")
	s.View()
	isError(t, "Flush", s.Flush(), api.OK)
	s.View()
	s.Drop(1)
	apply(t, s, "b=2")
	c := s.Clone()
	if c.Disk() == s.Disk() {
		t.Error("they have the same disk")
	}
	apply(t, c, "c=3 -a")
	apply(t, s, "d=4")
	has(t, s, -1, "a=1 b=2 d=4")
	has(t, c, -1, "b=2 c=3")
	for _, x := range []*store.Store{s, c} {
		has(t, x, 0, "a=1")
		if view, e := x.View(); view != 2 || e != api.OK {
			t.Errorf("View: %d, %d", view, e)
		}
	}
	isError(t, "Drop", c.Drop(0), api.OK)
	has(t, s, 0, "a=1")
	isError(t, "Compact", c.Compact(), api.OK)
	c.Disk().Restart(0)
	s.Disk().Restart(0)
	has(t, open(t, c.Disk()), -1, "b=2 c=3")
	has(t, open(t, s.Disk()), -1, "a=1")
	has(t, s, -1, "a=1 b=2 d=4")
}

// badStores returns stores that were not returned by Open or Clone.
func badStores() map[string]*store.Store {
	s, _ := store.Open(store.NewDisk())
	c := *s
	return map[string]*store.Store{"nil": nil, "zero": {}, "copy": &c}
}

func TestNoStore(t *testing.T) {
	for name, s := range badStores() {
		value, get := s.Get(7, "")
		entries, scan := s.Scan(7, "", "")
		view, e := s.View()
		for _, e := range []api.Errno{s.Apply(nil), s.Sync(), s.Flush(), s.Compact(), get, scan, e, s.Drop(0)} {
			isError(t, name, e, api.ErrState)
		}
		if value != "" || entries != nil || view != 0 {
			t.Errorf("%s: %q, %q, %d", name, value, entries, view)
		}
		if s.Broken() || s.Disk() != nil || s.Clone() != nil {
			t.Errorf("%s: it is a store", name)
		}
	}
}

// A store shares no memory with what it is given and returns.
func TestStoreMemory(t *testing.T) {
	s := open(t, store.NewDisk())
	changes := group("a=1 b=2")
	isError(t, "Apply", s.Apply(changes), api.OK)
	changes[0].Value = "z"
	s.View()
	entries, _ := s.Scan(-1, "", "")
	entries[0].Value = "z"
	has(t, s, -1, "a=1 b=2")
	has(t, s, 0, "a=1 b=2")
}

// strange returns disks whose files are not those of a store.
func strange(t *testing.T) map[string]*store.Disk {
	disks := map[string]*store.Disk{}
	for i, b := range []string{"", "junk", "{}", "\x00\x00\x00\x00", "begin", "\xf8"} {
		d := store.NewDisk()
		d.Append("x", []byte(b))
		disks[fmt.Sprint("foreign ", i)] = d
	}
	s := open(t, store.NewDisk())
	for _, words := range []string{"a=1 b=2", "c=3 -a", "d=4"} {
		apply(t, s, words)
		isError(t, "Flush", s.Flush(), api.OK)
	}
	apply(t, s, "e=5")
	for _, name := range s.Disk().Files() {
		junk := s.Clone().Disk()
		junk.Remove(name)
		junk.Append(name, []byte("junk"))
		disks["junk "+name] = junk
		longer := s.Clone().Disk()
		longer.Append(name, []byte("x"))
		disks["longer "+name] = longer
		other := s.Clone().Disk()
		other.Rename(name, "other")
		disks["other "+name] = other
	}
	for _, name := range s.Disk().Files()[:3] {
		lacking := s.Clone().Disk()
		lacking.Remove(name)
		disks["lacking "+name] = lacking
	}
	disks["not sorted"] = unsorted(t, "b=1 a=2")
	disks["a key twice"] = unsorted(t, "a=1 a=2")
	log, run := s.Disk().Files()[3], s.Disk().Files()[2]
	for _, n := range []int{1, 5, 12, len(s.Disk().Bytes(log))} {
		more := s.Clone().Disk()
		more.Append(run, more.Bytes(log)[:n])
		disks[fmt.Sprint("more ", n)] = more
	}
	return disks
}

// unsorted returns a disk on which a log has the name of a run, without being sorted.
func unsorted(t *testing.T, words string) *store.Disk {
	s := open(t, store.NewDisk())
	apply(t, s, "a=1")
	log := s.Disk().Files()[0]
	isError(t, "Flush", s.Flush(), api.OK)
	run := s.Disk().Files()[0]
	s = open(t, store.NewDisk())
	apply(t, s, words)
	isError(t, "Rename", s.Disk().Rename(log, run), api.OK)
	return s.Disk()
}

// Open of a disk whose files are not those of a store changes nothing.
func TestForm(t *testing.T) {
	disks := strange(t)
	for name, d := range disks {
		before := d.Clone()
		d.Arm(1)
		if s, e := store.Open(d); s != nil || e != api.ErrForm {
			t.Errorf("%s: Open: %v, %d", name, s, e)
		}
		if d.Down() || !slices.Equal(d.Files(), before.Files()) {
			t.Errorf("%s: it was changed", name)
		}
		d.Append("y", nil)
		if _, e := store.Open(d); e != api.ErrDown {
			t.Errorf("%s: Open of a disk that is down: %d", name, e)
		}
	}
	if len(disks) < 20 {
		t.Errorf("only %d disks", len(disks))
	}
}

// remade returns a disk with the same files, but for one.
func remade(d *store.Disk, but string, b []byte) *store.Disk {
	c := store.NewDisk()
	for _, name := range d.Files() {
		if name == but {
			c.Append(name, b)
		} else {
			c.Append(name, d.Bytes(name))
		}
	}
	return c
}

// A run with any byte changed, or cut, is none. A log that is cut is one, with less groups.
func TestSpoiled(t *testing.T) {
	s := open(t, store.NewDisk())
	apply(t, s, "a=1 bb=22")
	isError(t, "Flush", s.Flush(), api.OK)
	runs := s.Disk().Files()
	apply(t, s, "c=3 -a")
	apply(t, s, "c=4")
	for _, name := range s.Disk().Files() {
		isRun := slices.Contains(runs, name)
		for i, c := range s.Disk().Bytes(name) {
			for _, x := range []byte{0, 1, 2, 5, 16, 17, 64, 65, 255, c ^ 1, c ^ 4, c ^ 0x80} {
				b := s.Disk().Bytes(name)
				b[i] = x
				_, e := store.Open(remade(s.Disk(), name, b))
				if x != c && e == api.OK && (isRun || x == 255) {
					t.Errorf("%s: byte %d is %d, and Open returns OK", name, i, x)
				}
			}
			_, e := store.Open(remade(s.Disk(), name, s.Disk().Bytes(name)[:i]))
			if (e == api.OK) == isRun {
				t.Errorf("%s: cut after %d bytes: %d", name, i, e)
			}
		}
	}
}

// What follows in a log that is cut is not lost silently.
func TestCutWithin(t *testing.T) {
	s := open(t, store.NewDisk())
	apply(t, s, "a=1 b=2")
	apply(t, s, "c=3 -a d=4")
	log := s.Disk().Files()[0]
	for i := range s.Disk().Bytes(log) {
		d := store.NewDisk()
		d.Append(log, slices.Concat(s.Disk().Bytes(log)[:i], s.Disk().Bytes(log)))
		if found, e := store.Open(d); e == api.OK {
			has(t, found, -1, "b=2 c=3 d=4")
		} else {
			isError(t, "Open", e, api.ErrForm)
		}
	}
}

// A log does not begin within a group.
func TestBeginWithin(t *testing.T) {
	s := open(t, store.NewDisk())
	apply(t, s, "a=1 b=2")
	log := s.Disk().Files()[0]
	first := len(s.Disk().Bytes(log))
	apply(t, s, "c=3 -a")
	b := s.Disk().Bytes(log)
	for from := 1; from < first; from++ {
		for to := from + 1; to <= len(b); to++ {
			if _, e := store.Open(remade(s.Disk(), log, b[from:to])); e != api.ErrForm {
				t.Errorf("Open of the bytes from %d to %d: %d", from, to, e)
			}
		}
	}
}

// Compact leaves one file, and nothing of what is deleted.
func TestCompactFile(t *testing.T) {
	for _, letters := range []string{"   ", "f  ", "ff ", "fff", " f ", " ff", "  f", "fo ", "foo"} {
		s := open(t, store.NewDisk())
		for i, words := range []string{"gone=1 here=2 lost=3 -other", "more=5 -gone", "-lost"} {
			apply(t, s, words)
			s = called(t, s, rune(letters[i]))
		}
		isError(t, "Compact", s.Compact(), api.OK)
		files := s.Disk().Files()
		if len(files) != 1 {
			t.Fatalf("%q: there are %q", letters, files)
		}
		b := string(s.Disk().Bytes(files[0]))
		for word, want := range map[string]bool{"gone": false, "lost": false, "other": false, "here": true, "more": true} {
			if strings.Contains(b, word) != want {
				t.Errorf("%q: %s is in %q: %t", letters, word, b, !want)
			}
		}
	}
}

// What Open finds counts as synced, also if the files were copied to the disk.
func TestCopied(t *testing.T) {
	s := open(t, store.NewDisk())
	apply(t, s, "a=1")
	isError(t, "Flush", s.Flush(), api.OK)
	apply(t, s, "b=2")
	isError(t, "Flush", s.Flush(), api.OK)
	apply(t, s, "c=3")
	for n := range 20 {
		d := remade(s.Disk(), "", nil)
		d.Arm(n)
		found, e := store.Open(d)
		if n > 0 && e == api.ErrDown {
			continue
		}
		isError(t, "Open", e, api.OK)
		has(t, found, -1, "a=1 b=2 c=3")
		d.Restart(0)
		has(t, open(t, d), -1, "a=1 b=2 c=3")
	}
}

// There is room for MaxChanges changes, whatever else is called and however often.
func TestRoom(t *testing.T) {
	for name, letters := range map[string]string{
		"nothing": "", "Sync": "s", "Flush": "f", "Compact": "c", "Open": "o", "all": "sfvcodsf",
	} {
		s := open(t, store.NewDisk())
		for i := range api.MaxChanges {
			isError(t, name, s.Apply(change(fmt.Sprintf("%016d", i), strings.Repeat("v", 64))), api.OK)
			for _, letter := range letters {
				s = called(t, s, letter)
			}
		}
		entries, e := s.Scan(-1, "", "")
		if e != api.OK || len(entries) != api.MaxChanges {
			t.Errorf("%s: %d entries, %d", name, len(entries), e)
		}
		isError(t, "Compact", s.Compact(), api.OK)
	}
}

// called calls a function of a store that a letter names, and returns the store.
func called(t *testing.T, s *store.Store, letter rune) *store.Store {
	t.Helper()
	switch letter {
	case 's':
		isError(t, "Sync", s.Sync(), api.OK)
	case 'f':
		isError(t, "Flush", s.Flush(), api.OK)
	case 'c':
		isError(t, "Compact", s.Compact(), api.OK)
	case 'o':
		return open(t, s.Disk())
	case 'v':
		s.View()
	case 'd':
		s.Drop(0)
	}
	return s
}

// What power failures leave takes no room.
func TestRoomAfterFailures(t *testing.T) {
	s := open(t, store.NewDisk())
	d := s.Disk()
	for i := range api.MaxChanges {
		isError(t, "Apply", s.Apply(change(fmt.Sprintf("%016d", i), strings.Repeat("v", 64))), api.OK)
		isError(t, "Sync", s.Sync(), api.OK)
		for n := range 10 {
			d.Arm(1 + n)
			s.Apply(change("torn", strings.Repeat("t", 64)))
			s.Flush()
			s.Compact()
			for keep := 0; !reopened(&s, d, 50*n+keep, keep%4); keep += 17 {
			}
		}
	}
	entries, e := s.Scan(-1, "0", "1")
	if e != api.OK || len(entries) != api.MaxChanges {
		t.Errorf("%d entries, %d", len(entries), e)
	}
}

// reopened restarts a disk and opens it, unless it goes down in that.
func reopened(s **store.Store, d *store.Disk, keep, n int) bool {
	d.Restart(keep)
	d.Arm(n)
	found, e := store.Open(d)
	if e == api.OK {
		*s = found
	}
	return e == api.OK
}

// A store is not full of what is there no more.
func TestRoomForSameKey(t *testing.T) {
	s := open(t, store.NewDisk())
	for i := range 6000 {
		isError(t, "Apply", s.Apply(change("key", fmt.Sprintf("%064d", i))), api.OK)
	}
	has(t, s, -1, fmt.Sprintf("key=%064d", 5999))
	isError(t, "Sync", s.Sync(), api.OK)
	s.Disk().Restart(0)
	has(t, open(t, s.Disk()), -1, fmt.Sprintf("key=%064d", 5999))
}

// A full store works on: it is flushed, compacted and found again, and what is deleted makes room.
func TestFull(t *testing.T) {
	s := open(t, store.NewDisk())
	_, made := filled(t, s)
	before, _ := s.Scan(-1, "", "")
	for _, letter := range "sfc" {
		s = called(t, s, letter)
	}
	s.Disk().Restart(0)
	s = open(t, s.Disk())
	after, _ := s.Scan(-1, "", "")
	if !slices.Equal(before, after) || len(after) != made {
		t.Errorf("%d entries became %d", len(before), len(after))
	}
	changed := made / 4
	for i := range changed {
		isError(t, "delete", s.Apply([]api.Change{{Key: fmt.Sprintf("%016d", i), Delete: true}}), api.OK)
		isError(t, "set", s.Apply(change(fmt.Sprintf("x%015d", i), strings.Repeat("w", 64))), api.OK)
	}
	s = open(t, s.Disk())
	if entries, _ := s.Scan(-1, "x", ""); len(entries) != changed {
		t.Errorf("%d entries", len(entries))
	}
}

// However full a store is, a value can be replaced by one that is not longer, and keys deleted.
func TestFullToTheBrim(t *testing.T) {
	full := open(t, store.NewDisk())
	_, made := filled(t, full)
	for _, length := range []int{0, 1, 2, 11, 33, 63, 64} {
		s := full.Clone()
		apply(t, s, "-"+fmt.Sprintf("%016d", length)+" a="+strings.Repeat("a", length))
		keys := []string{"b", "c", "d", "e"}
		for _, key := range keys { // as long as there is space
			for n := 64; n >= 0 && s.Apply(change(key, strings.Repeat("b", n))) == api.ErrFull; n-- {
			}
		}
		isError(t, "a new key", s.Apply(change("f", "")), api.ErrFull)
		isError(t, "the same length", s.Apply(change("a", strings.Repeat("x", length))), api.OK)
		isError(t, "delete", s.Apply(group("-a")), api.OK)
		isError(t, "delete again", s.Apply(group("-a -b -c -d -e")), api.OK)
		if entries, _ := s.Scan(-1, "", ""); len(entries) != made-1 {
			t.Errorf("%d entries; want %d", len(entries), made-1)
		}
	}
}

// The disk may go down in any act by which a full store makes room.
func TestFullAndDown(t *testing.T) {
	full := open(t, store.NewDisk())
	_, made := filled(t, full)
	key := fmt.Sprintf("%016d", 3)
	for n := 1; ; n++ {
		s := full.Clone()
		d := s.Disk()
		d.Arm(n)
		e := s.Apply(change(key, "new"))
		if e == api.OK {
			break
		}
		isError(t, "Apply", e, api.ErrDown)
		if value, _ := s.Get(-1, key); value != strings.Repeat("v", 64) {
			t.Errorf("%d: a store that is broken has %q", n, value)
		}
		d.Restart(n * 1000)
		found := open(t, d)
		entries, _ := found.Scan(-1, "", "")
		if value := entries[3].Value; len(entries) > made || len(value) != 64 && value != "new" {
			t.Errorf("%d: %d entries of %d, %q", n, len(entries), made, value)
		}
		isError(t, "Compact", found.Compact(), api.OK)
	}
}

// ErrFull if other files take the space; the store works on when they are gone.
func TestForeignFiles(t *testing.T) {
	s := open(t, store.NewDisk())
	apply(t, s, "a=1")
	s.Disk().Append("x", make([]byte, api.MaxDisk-60))
	before := face(s)
	isError(t, "Apply", s.Apply(slices.Repeat(group("b=2"), 20)), api.ErrFull)
	isError(t, "Flush", s.Flush(), api.OK)
	apply(t, s, "b=2")
	s.Disk().Append("x", make([]byte, 7))
	isError(t, "Flush", s.Flush(), api.ErrFull)
	isError(t, "Compact", s.Compact(), api.ErrFull)
	s.Disk().Remove("x")
	if before == face(s) || s.Broken() {
		t.Error("it is as before, or broken")
	}
	isError(t, "Compact", s.Compact(), api.OK)
	s.Disk().Restart(0)
	has(t, open(t, s.Disk()), -1, "a=1 b=2")
}

// The same calls have the same results, and write the same.
func TestSame(t *testing.T) {
	faces := map[string]bool{}
	for range 20 {
		s := open(t, store.NewDisk())
		for i := range 30 {
			apply(t, s, fmt.Sprintf("a%d=1 b%d=2 c=%d -a%d", i%7, i%5, i, (i*3)%7))
			s = called(t, s, rune("svfdco"[i%6]))
		}
		faces[face(s)] = true
	}
	if len(faces) != 1 {
		t.Errorf("there are %d results", len(faces))
	}
}
