package store_test

import (
	"bytes"
	"math"
	"math/rand"
	"slices"
	"strconv"
	"strings"
	"testing"

	"bolster/api"
	"bolster/store"
)

// A disk does what the chapter says, in whatever order it is asked.
func TestDiskAsDefined(t *testing.T) {
	random := rand.New(rand.NewSource(1))
	names := []string{"a", "b", "cc", "sixteen bytes...", "", "seventeen bytes.."}
	seen := map[api.Errno]int{}
	for range 300 {
		d, s := store.NewDisk(), newShelf()
		for range 60 {
			name, to := names[random.Intn(6)], names[random.Intn(6)]
			b := []byte(strings.Repeat("x", random.Intn(6)) + strconv.Itoa(random.Intn(100)))
			var got, want api.Errno
			switch random.Intn(9) {
			case 0, 1, 2:
				got, want = d.Append(name, b), s.append(name, b)
			case 3:
				got, want = d.Sync(name), s.sync(name)
			case 4:
				got, want = d.Remove(name), s.remove(name)
			case 5:
				got, want = d.Rename(name, to), s.rename(name, to)
			case 6:
				n := random.Intn(20) - 2
				d.Arm(n)
				s.left = n
			case 7:
				keep := random.Intn(30) - 2
				d.Restart(keep)
				s.restart(keep)
			case 8:
				old, was := d, s.clone()
				d = d.Clone()
				old.Append("a", b)
				old.Restart(1)
				was.isLike(t, d)
			}
			if got != want {
				t.Fatalf("%d; want %d", got, want)
			}
			seen[got]++
			s.isLike(t, d)
		}
	}
	for _, e := range []api.Errno{api.OK, api.ErrArg, api.ErrNone, api.ErrDown} {
		if seen[e] < 500 {
			t.Errorf("error %d occurred %d times", e, seen[e])
		}
	}
}

// isError holds an error.
func isError(t *testing.T, what string, got, want api.Errno) {
	t.Helper()
	if got != want {
		t.Errorf("%s: %d; want %d", what, got, want)
	}
}

// A disk has room for exactly MaxDisk bytes.
func TestDiskBytes(t *testing.T) {
	d := store.NewDisk()
	isError(t, "too many at once", d.Append("a", make([]byte, api.MaxDisk+1)), api.ErrFull)
	isError(t, "all but one", d.Append("a", make([]byte, api.MaxDisk-1)), api.OK)
	isError(t, "two more", d.Append("b", make([]byte, 2)), api.ErrFull)
	if files := d.Files(); !slices.Equal(files, []string{"a"}) {
		t.Errorf("Files() = %q: a file was made without space", files)
	}
	isError(t, "one more", d.Append("b", make([]byte, 1)), api.OK)
	isError(t, "none more", d.Append("c", nil), api.OK)
	isError(t, "one too many", d.Append("a", make([]byte, 1)), api.ErrFull)
	isError(t, "Remove", d.Remove("b"), api.OK)
	isError(t, "one again", d.Append("a", make([]byte, 1)), api.OK)
}

// A disk has at most MaxFiles files.
func TestDiskFiles(t *testing.T) {
	d := store.NewDisk()
	for i := range api.MaxFiles {
		isError(t, "Append", d.Append(strconv.Itoa(i), nil), api.OK)
	}
	isError(t, "one too many", d.Append("more", nil), api.ErrFull)
	isError(t, "to a file", d.Append("7", []byte("b")), api.OK)
	isError(t, "Rename", d.Rename("7", "8"), api.OK)
	isError(t, "one again", d.Append("more", nil), api.OK)
	isError(t, "one too many again", d.Append("again", nil), api.ErrFull)
}

// Calls that are refused are no acts, and all others are.
func TestActs(t *testing.T) {
	d := store.NewDisk()
	d.Arm(6)
	d.Append("", nil)
	d.Append("big", make([]byte, api.MaxDisk+1))
	d.Sync("none")
	d.Remove("none")
	d.Rename("none", "a")
	d.Rename("a", "a")
	isError(t, "1", d.Append("a", nil), api.OK)
	isError(t, "2", d.Append("a", []byte("xyz")), api.OK)
	isError(t, "3", d.Sync("a"), api.OK)
	isError(t, "4", d.Sync("a"), api.OK)
	isError(t, "5", d.Rename("a", "b"), api.OK)
	isError(t, "6", d.Remove("b"), api.ErrDown)
	if !d.Down() || len(d.Files()) != 0 {
		t.Error("it is up, or the file was not removed")
	}
	isError(t, "Append when down", d.Append("a", make([]byte, api.MaxDisk+1)), api.ErrDown)
	isError(t, "Sync when down", d.Sync("none"), api.ErrDown)
	isError(t, "no name when down", d.Sync(""), api.ErrArg)
}

// Arm takes the place of what was armed before, and Restart disarms.
func TestArm(t *testing.T) {
	for _, n := range []int{0, -1, math.MinInt} {
		d := store.NewDisk()
		d.Arm(1)
		d.Arm(n)
		for range 5 {
			isError(t, "not armed", d.Append("a", nil), api.OK)
		}
	}
	d := store.NewDisk()
	d.Arm(1)
	d.Restart(0)
	isError(t, "restarted", d.Append("a", nil), api.OK)
	d.Arm(3)
	isError(t, "first of 3", d.Append("a", nil), api.OK)
	d.Arm(2)
	isError(t, "first of 2", d.Append("a", nil), api.OK)
	isError(t, "second of 2", d.Append("a", nil), api.ErrDown)
	d.Arm(1)
	d.Restart(0)
	isError(t, "armed when down", d.Append("a", nil), api.OK)
}

// What is left of bytes that are not synced.
func TestRestartKeeps(t *testing.T) {
	for keep, want := range map[int]string{
		math.MinInt: "abc", -1: "abc", 0: "abc", 1: "abcd", 3: "abcdef", 4: "abc", 5: "abcd",
		math.MaxInt: "abcdef",
	} {
		d := store.NewDisk()
		d.Append("x", []byte("abc"))
		d.Sync("x")
		d.Append("x", []byte("def"))
		d.Rename("x", "y")
		d.Append("z", nil)
		d.Restart(keep)
		if b := d.Bytes("y"); string(b) != want || !slices.Equal(d.Files(), []string{"y", "z"}) {
			t.Errorf("Restart(%d): %q, %q", keep, b, d.Files())
		}
		d.Restart(1)
		if b := d.Bytes("y"); string(b) != want {
			t.Errorf("%q do not count as synced", want)
		}
	}
}

// What is done in the act that takes the disk down.
func TestLastAct(t *testing.T) {
	for _, c := range []struct {
		name, want string
		do         func(d *store.Disk) api.Errno
	}{
		{"Append", "a=old new b=other", func(d *store.Disk) api.Errno { return d.Append("a", []byte(" new")) }},
		{"Append of a new file", "a=old b=other c=new", func(d *store.Disk) api.Errno { return d.Append("c", []byte("new")) }},
		{"Remove", "b=other", func(d *store.Disk) api.Errno { return d.Remove("a") }},
		{"Rename", "b=old", func(d *store.Disk) api.Errno { return d.Rename("a", "b") }},
		{"Sync", "a=old b=other", func(d *store.Disk) api.Errno { return d.Sync("a") }},
	} {
		d := store.NewDisk()
		d.Append("a", []byte("old"))
		d.Append("b", []byte("other"))
		d.Arm(1)
		isError(t, c.name, c.do(d), api.ErrDown)
		var got []string
		for _, name := range d.Files() {
			got = append(got, name+"="+string(d.Bytes(name)))
		}
		if shown := strings.Join(got, " "); !d.Down() || shown != c.want {
			t.Errorf("%s: %q; want %q", c.name, shown, c.want)
		}
		d.Restart(0)
		if c.name == "Sync" && len(d.Bytes("a")) > 0 {
			t.Error("Sync was done")
		}
	}
}

// badDisks returns disks that were not returned by NewDisk or Clone.
func badDisks() map[string]*store.Disk {
	d := *store.NewDisk()
	return map[string]*store.Disk{"nil": nil, "zero": {}, "copy": &d}
}

func TestNoDisk(t *testing.T) {
	for name, d := range badDisks() {
		isError(t, name, d.Append("", nil), api.ErrState)
		isError(t, name, d.Append("a", nil), api.ErrState)
		isError(t, name, d.Sync("a"), api.ErrState)
		isError(t, name, d.Remove("a"), api.ErrState)
		isError(t, name, d.Rename("a", "a"), api.ErrState)
		d.Arm(1)
		d.Restart(1)
		if d.Files() != nil || d.Bytes("a") != nil || d.Down() || d.Clone() != nil {
			t.Errorf("%s: it is a disk", name)
		}
		s, e := store.Open(d)
		isError(t, name, e, api.ErrArg)
		if s != nil {
			t.Errorf("%s: Open: %v", name, s)
		}
	}
}

// A disk shares no memory with what it is given and returns.
func TestDiskMemory(t *testing.T) {
	d := store.NewDisk()
	given := []byte("abc")
	d.Append("a", given)
	d.Append("b", given[:1])
	d.Append("b", given[1:])
	given[0] = 'z'
	d.Bytes("a")[1] = 'z'
	d.Files()[0] = "z"
	c := d.Clone()
	d.Append("a", []byte("d"))
	c.Append("a", []byte("e"))
	if !bytes.Equal(d.Bytes("a"), []byte("abcd")) || string(c.Bytes("a")) != "abce" || string(c.Bytes("b")) != "abc" {
		t.Errorf("%q, %q", d.Bytes("a"), c.Bytes("a"))
	}
	if !slices.Equal(d.Files(), []string{"a", "b"}) || d.Bytes("c") != nil {
		t.Errorf("Files() = %q", d.Files())
	}
}

// A clone is in the same state, and independent: also what is armed, and what is synced.
func TestDiskClone(t *testing.T) {
	d := store.NewDisk()
	d.Append("a", []byte("abc"))
	d.Sync("a")
	d.Append("a", []byte("def"))
	d.Arm(2)
	c := d.Clone()
	isError(t, "first", c.Append("b", nil), api.OK)
	isError(t, "second", c.Append("b", nil), api.ErrDown)
	if !c.Down() || d.Down() || !c.Clone().Down() {
		t.Error("whether a disk is down")
	}
	isError(t, "first of the other", d.Append("b", nil), api.OK)
	c.Restart(1)
	if string(c.Bytes("a")) != "abcd" || string(d.Bytes("a")) != "abcdef" {
		t.Errorf("%q, %q", c.Bytes("a"), d.Bytes("a"))
	}
}
