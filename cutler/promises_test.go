package cutler_test

import (
	"slices"
	"strconv"
	"strings"
	"testing"

	"bolster/cutler"
)

func TestH1Packages(t *testing.T) {
	answered := map[string]bool{}
	for seed := range int64(400) {
		c, w := cutler.New(), &workshop{}
		for _, line := range newScripts(1000 + seed).script(100) {
			got, want := c.Line(line), w.reply(line)
			if got != want {
				t.Fatalf("seed %d: %q after %q: %q; want %q", seed, line, w.lines, got, want)
			}
			if !strings.HasPrefix(got, "!") {
				answered[strings.Split(line, " ")[0]] = true
			}
		}
	}
	for name := range known {
		if !answered[name] {
			t.Errorf("%s was never done", name)
		}
	}
}

// mayBreak reports whether a line that was refused may change the store.
func mayBreak(line, reply string) bool {
	for first := true; first; line = strings.TrimPrefix(line, "try ") {
		first = strings.HasPrefix(line, "try ")
	}
	name := strings.Split(strings.Split(line, "\n")[0], " ")[0]
	return reply == "! 8\n" || ofStore[name] && reply == "! 7\n" || name == "open"
}

func TestH2Refused(t *testing.T) {
	refused := map[string]bool{}
	for seed := range int64(300) {
		// The second workshop does not get the lines that the first one refuses.
		c, d := cutler.New(), cutler.New()
		var done []string
		for _, line := range newScripts(2000 + seed).script(100) {
			got := c.Line(line)
			done = append(done, line)
			if strings.HasPrefix(got, "!") && !mayBreak(line, got) {
				refused[got] = true
				continue
			}
			if want := d.Line(line); got != want {
				t.Fatalf("seed %d: %q: %q; without the lines that were refused %q", seed, done, got, want)
			}
		}
	}
	for n := range 7 {
		if n > 0 && n != 4 && !refused["! "+strconv.Itoa(n)+"\n"] {
			t.Errorf("no line was refused with %d", n)
		}
	}
}

func TestH3Try(t *testing.T) {
	for seed := range int64(300) {
		m := newScripts(3000 + seed)
		// Lines are tried on the first workshop alone, the one that comes, too.
		c, d := cutler.New(), cutler.New()
		script := m.script(100)
		for i, line := range script {
			c.Line("try " + pick(m, script))
			tried := c.Line("try " + line)
			got, want := c.Line(line), d.Line(line)
			if got != want {
				t.Fatalf("seed %d: %q: %q; without what was tried %q", seed, script[:i+1], got, want)
			}
			first := strings.Split(strings.Split(line, "\n")[0], " ")[0]
			if line = strings.Split(line, "\n")[0]; line == "" || first == "try" {
				want = "! 2\n"
			}
			if len(line)+4 > 1000 {
				want = "! 3\n"
			}
			if tried != want {
				t.Fatalf("seed %d: try of the last one of %q: %q; want %q", seed, script[:i+1], tried, want)
			}
		}
	}
}

// states are what the store held after each of its changes: what scan replies.
type states struct {
	entries map[string]string
	scans   []string
}

func (s *states) put(key, value string) {
	s.entries[key] = value
	s.scans = append(s.scans, s.scan())
}

func (s *states) scan() string {
	var keys []string
	for key := range s.entries {
		keys = append(keys, key)
	}
	slices.Sort(keys)
	text := ""
	for _, key := range keys {
		text += "entry " + key + " " + s.entries[key] + "\n"
	}
	return text
}

func TestH4Durable(t *testing.T) {
	for seed := range int64(1500) {
		m := newScripts(4000 + seed)
		c := cutler.New()
		s := &states{map[string]string{}, []string{""}}
		durable := 0
		for step := range 60 {
			switch m.Intn(9) {
			case 0:
				if c.Line(pick(m, []string{"sync", "flush", "compact"})) == "" {
					durable = len(s.scans) - 1
				}
			case 1:
				c.Line("arm " + strconv.Itoa(1+m.Intn(8)))
			case 2:
				reopen(m, c)
				found := slices.Index(s.scans, c.Line("scan -1"))
				if found < durable {
					t.Fatalf("seed %d: %q is there; synced was %q", seed, c.Line("scan -1"), s.scans[durable])
				}
				// What it finds is there in every later open. (Values are never put twice,
				// so that each state is another one.)
				s.scans = s.scans[:found+1]
				s.entries = map[string]string{}
				for _, row := range strings.Split(strings.TrimSuffix(s.scans[found], "\n"), "\n") {
					if words := strings.Split(row, " "); len(words) == 3 {
						s.entries[words[1]] = words[2]
					}
				}
				durable = found
			default:
				key, value := pick(m, []string{"a", "b", "c", "d"}), strconv.Itoa(step)
				if r := c.Line("put " + key + " " + value); r == "" || r == "! 8\n" {
					s.put(key, value)
				}
			}
		}
	}
}

// reopen restarts the disk and opens the store until it succeeds, which may fail at first.
func reopen(m *scripts, c *cutler.Cutler) {
	if m.Intn(4) == 0 {
		c.Line("arm " + strconv.Itoa(1+m.Intn(4)))
	}
	for reply := "! 8\n"; reply != ""; reply = c.Line("open") {
		c.Line("restart " + strconv.Itoa(m.Intn(200)))
		if m.Intn(4) == 0 {
			c.Line("arm " + strconv.Itoa(1+m.Intn(4)))
		}
	}
}
