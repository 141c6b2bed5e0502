package store_test

import (
	"fmt"
	"math/rand"
	"slices"
	"strings"
	"testing"

	"bolster/api"
	"bolster/store"
)

// keeps are numbers of bytes that a restart leaves of what is not synced: none, few, and so many
// that records are cut everywhere, or that all is left.
var keeps = []int{0, 1, 6, 9, 11, 19, 23, 30, 41, 1<<62 - 1}

// scripts calls a function with all strings of letters of a length.
func scripts(letters string, length int, do func(string)) {
	if length == 0 {
		do("")
		return
	}
	scripts(letters, length-1, func(rest string) {
		for _, letter := range letters {
			do(rest + string(letter))
		}
	})
}

// crash plays a script until the n-th act takes the disk down; then the disk is restarted, the
// store is opened (and the disk goes down again in the m-th act of that), and the rest is played.
// It reports whether the disk went down at all, and whether it did again.
func crash(t *testing.T, script string, n, keep, m int) (bool, bool) {
	t.Helper()
	p := newPlay(t)
	p.disk.Arm(n)
	hasFallen, again := false, false
	for i := range len(script) {
		if p.step(script[i]) == api.ErrDown {
			if hasFallen {
				t.Fatalf("%s: it went down again", p.steps)
			}
			hasFallen, again = true, p.rise(keep, m)
		}
	}
	p.rise(keep, 0)
	p.rise(0, 0)
	return hasFallen, again
}

// K1: what was synced is found, whatever act the disk went down in. (The history forgets nothing
// that was synced.)
func TestK1Synced(t *testing.T) {
	fell := 0
	scripts("asfco", 4, func(script string) {
		for _, keep := range keeps {
			for n := 1; ; n++ {
				hasFallen, _ := crash(t, "a"+script, n, keep, 0)
				if !hasFallen {
					break
				}
				fell++
			}
		}
	})
	if fell < 10000 {
		t.Errorf("the disk went down %d times only", fell)
	}
}

// K2: if a group is there, all earlier ones are, and each one completely. The store is cut after
// each of its bytes that are not synced.
func TestK2InOrder(t *testing.T) {
	for _, script := range []string{"aaaaaaaa", "aaasaaaa", "aafaaaaa", "aafaacaaaa"} {
		found := map[int]bool{}
		for keep := range 700 {
			p := newPlay(t)
			for i := range len(script) {
				p.step(script[i])
			}
			made, synced := p.made(), p.synced
			p.rise(keep, 0)
			if p.made() < synced || p.made() > made {
				t.Fatalf("%s, %d: found %d groups", script, keep, p.made())
			}
			found[p.made()] = true
		}
		if len(found) < 5 { // a log from which all numbers of groups may remain
			t.Errorf("%s: found only %v", script, found)
		}
	}
}

// A group whose Apply returned ErrDown is there or not, as a whole.
func TestK2LastGroup(t *testing.T) {
	found := map[int]bool{}
	for keep := range 300 {
		p := newPlay(t)
		p.step('a')
		p.step('s')
		p.disk.Arm(1)
		if e := p.step('a'); e != api.ErrDown {
			t.Fatalf("Apply: %d", e)
		}
		p.rise(keep, 0)
		found[p.made()] = true
	}
	if !found[1] || !found[2] || len(found) != 2 {
		t.Errorf("found %v groups", found)
	}
}

// K3: what Open has found is there in every later Open, also if one of them went down in between.
func TestK3Again(t *testing.T) {
	fell := 0
	scripts("asfc", 3, func(script string) {
		for _, keep := range []int{0, 11, 23, 41, 1<<62 - 1} {
			for n := 1; ; n++ {
				hasFallen, again := false, true
				for m := 1; again; m++ {
					hasFallen, again = crash(t, "a"+script, n, keep, m)
					fell++
				}
				if !hasFallen {
					break
				}
			}
		}
	})
	if fell < 5000 {
		t.Errorf("the disk went down %d times only", fell)
	}
}

// K1 to K5: long plays, in which the disk goes down now and then.
func TestManySteps(t *testing.T) {
	random := rand.New(rand.NewSource(10))
	for range 150 {
		p := newPlay(t)
		for range 150 {
			if random.Intn(12) == 0 {
				p.disk.Arm(1 + random.Intn(12))
			}
			if p.step("aaaaaasffcvvdo"[random.Intn(14)]) == api.ErrDown || random.Intn(30) == 0 {
				p.rise(random.Intn(400), random.Intn(8))
			}
		}
	}
}

// K4: a view never changes, whatever is changed, flushed or compacted. (Each step looks at all
// views.)
func TestK4Views(t *testing.T) {
	scripts("afcv", 6, func(script string) {
		p := newPlay(t)
		for i := range len(script) {
			p.step(script[i])
		}
		p.step('v')
		for i := range len(script) {
			p.step(script[len(script)-1-i])
		}
	})
	p := newPlay(t)
	for i := range 100 {
		p.step('v')
		p.step('a')
		p.step("fsdac"[i%5])
	}
	if len(p.views) != api.MaxViews || p.seen < 20 {
		t.Errorf("there are %d views, and were %d", len(p.views), p.seen)
	}
}

// K5: Sync, Flush and Compact change no result of Get and Scan. (Each step looks at all results.)
func TestK5Same(t *testing.T) {
	p := newPlay(t)
	for i := range 300 {
		p.step('a')
		for _, letter := range []byte("vsfc"[:i%5]) {
			p.step(letter)
			p.step(letter)
		}
	}
	for range 40 { // more runs than there are files on a disk
		p.step('a')
		p.step('f')
		p.step('v')
		p.step('d')
	}
}

// face is all that can be seen of a store.
func face(s *store.Store) string {
	var b strings.Builder
	for _, name := range s.Disk().Files() {
		fmt.Fprintf(&b, "%s %q\n", name, s.Disk().Bytes(name))
	}
	for view := -1; view < 20; view++ {
		entries, e := s.Scan(view, "", "")
		fmt.Fprintln(&b, view, entries, e)
	}
	fmt.Fprintln(&b, s.Broken(), s.Disk().Down())
	return b.String()
}

// refusals is the calls of a store that are refused, with the errors for which they are.
func refusals(s *store.Store) map[string][2]api.Errno {
	long := slices.Repeat(change("k", "v"), 21)
	bad := append(slices.Clone(long), api.Change{})
	_, get := s.Get(-1, "")
	_, none := s.Get(-1, "not there")
	_, view := s.Get(7, "a")
	_, scan := s.Scan(-2, "", "")
	return map[string][2]api.Errno{
		"empty":      {s.Apply(nil), api.ErrArg},
		"no key":     {s.Apply(change("", "1")), api.ErrArg},
		"long key":   {s.Apply(change(strings.Repeat("k", 17), "1")), api.ErrArg},
		"long value": {s.Apply(change("k", strings.Repeat("v", 65))), api.ErrArg},
		"last":       {s.Apply(append(change("k", "v"), api.Change{Delete: true})), api.ErrArg},
		"long":       {s.Apply(long), api.ErrLong},
		"bad":        {s.Apply(bad), api.ErrArg},
		"Drop":       {s.Drop(-1), api.ErrArg},
		"Drop 7":     {s.Drop(7), api.ErrArg},
		"Get":        {get, api.ErrArg},
		"Get none":   {none, api.ErrNone},
		"Get view":   {view, api.ErrArg},
		"Scan":       {scan, api.ErrArg},
	}
}

// K6: a call that returns another error than ErrDown changes nothing.
func TestK6Refused(t *testing.T) {
	for _, script := range []string{"", "a", "aaf", "aafaavfaa", "aavaacaad", "avo"} {
		p := newPlay(t)
		for i := range len(script) {
			p.step(script[i])
		}
		before := face(p.store)
		for name, e := range refusals(p.store) {
			if e[0] != e[1] {
				t.Errorf("%s, %s: %d; want %d", script, name, e[0], e[1])
			}
		}
		if after := face(p.store); after != before {
			t.Errorf("%s: %s\nbecame %s", script, before, after)
		}
		p.step('v') // numbers of views are not used up
		p.step('a')
		p.rise(0, 0)
	}
}

// K6: of a store without space, and of a disk that is no store's.
func TestK6Full(t *testing.T) {
	p := newPlay(t)
	for range api.MaxViews {
		p.step('v')
	}
	before := face(p.store)
	if _, e := p.store.View(); e != api.ErrFull {
		t.Errorf("View: %d", e)
	}
	full, made := filled(t, p.store)
	if made < api.MaxChanges {
		t.Errorf("full after %d changes", made)
	}
	if full == before {
		t.Error("nothing was changed")
	}
	for i := range 30 {
		if e := p.store.Apply(change(fmt.Sprintf("%016d", made+i), strings.Repeat("v", 64))); e != api.ErrFull {
			t.Fatalf("Apply to a full store: %d", e)
		}
	}
	if after := face(p.store); after != full {
		t.Error("ErrFull changed the store")
	}
}

// filled makes as many changes as there is space for, each of a key of its own. It returns the
// face of the full store, and their number.
func filled(t *testing.T, s *store.Store) (string, int) {
	t.Helper()
	for i := range 100000 {
		switch e := s.Apply(change(fmt.Sprintf("%016d", i), strings.Repeat("v", 64))); e {
		case api.OK:
		case api.ErrFull:
			return face(s), i
		default:
			t.Fatalf("Apply: %d", e)
		}
	}
	t.Fatal("there is no end")
	return "", 0
}
