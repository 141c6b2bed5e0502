package cutler_test

import (
	"math/rand"
	"strconv"
	"strings"
)

// themes are the patterns from which the lines of scripts are made, each for a part of the
// workshop. A pattern may make several lines; a:b is a number from a to b, with a star any
// number of them; words with strokes between them are one of these words.
const themes = `
rhythm a|b|ab|ba|abaab|aabaab|abcabcd|e|aaaaaaaa
even 0:6 0:6
gaps 0:7 0:6 5:9
scroll 0 0
scroll 0|1 1 0|2 1
scroll 0 1 2 0 1 2
scroll 0:1*
faces 0:4 0 0 1|-1|0
faces 6 0 1 2 0 1 2 -1|1 -1|1 -1|1
faces -1:5 0:1*
terms 0:20 1:20
near 0:20 1:20 1:9
root 1:30
train 1:9 1:9 0:2 20 30 28 7 3
train 1:9 1:9 1 0:20*
beats 1:8 -1:9
markov 0:99

wheels 0:4
wheels 3; belt 0 1 -2|1|3 1|2; belt 1 2 -1|1|6 1|3
belt 0:3 0:3 -6|-2|-1|0|1|2|3|6 0:3
speeds
ratio 0:3 0:3
group

clear river
clear river; place 0:4 5:9 2:5 0:2; place 0:4 3:9; place 0:4
place 0:4 3:9 0:4
place 0:4 0:5*
river
alone 0:2
alone 0:1 1:2
alone 0:3*
aspires 0:1 1:2
aspires 0:3*
calls 0:4 0:4 0|1 0|1
calls 0:4 0:4 0:4 0:2 0:2 0:2
calls 0:4*

lives 1/2 1/2
lives 0 1
lives 1/3 0 2/3
lives 1|1/2 1/2|1/3|-1/2
lives
renew -1:6
mean
spares 0:6 0:3
replace 1|1/2|3 4|5/2|1|0

clear costs
clear costs; cost 0:5
clear costs; cost 0:5 0:5; cost 0:5 0:5
clear costs; cost 0:5 0:5 0:9; cost 0:5 0:9 0:5; cost 0:3 0:3 0:3
cost 0:5*
pairs
lacks 0:5
pairing 0:5 0:3

clear oven
clear oven; row 0 ...|.#.|#..; row 0 ...|.#.|..#; move 0 0 -1:1 -1:1; move 0 0 -1:1 -1:1; jolt 0 0|1
phase; row 1 ...|.#.; row 1 ...
row 0:1 ...|..#|x
move 0:1 0:1 -1:1 -1:1
jolt -1:1 -1:1
kernel
choose 0:1 0:2 0:1
play 0 0:2 0:1 0:1*

power 0:3
power 1:3; job 0:2 4:8 1:3 1:2; job 0:2 4:8 1:3 1:2
job 0:3 3:9 1:3 1:3
order 0:2 0:2
shaft
overfull

claims 0:4
claims 3:5; attack 0:2 0:2; attack 0:2 0:2
attack 0:4 0:4
granted
preferred
stable
complete
odd

ring chang|peterson 3 1 2
ring chang|peterson 5 9
ring chang|peterson 1:4*
start 0:2
start 0:2; pass 0:2; pass 0:2
pass 0:2
pass 0; pass 1; pass 2
leaders

work 0:3
work 2|3; task 0 1
task 0:2 0:2
idle 0:2
deliver 0:2
ended

put a|b|c|d|key 1|22|-|x
put a|b|c|d|a-key-of-more-than-16-bytes 3|44
delete a|b|c|d
get -1:2 a|b|c|d
scan -1:1
view
drop 0:2
sync
flush
compact
arm 0:6
restart 0:90
restart 0:90; open
open
`

// scripts makes lines by chance.
type scripts struct {
	*rand.Rand
	themes [][]string
}

func newScripts(seed int64) *scripts {
	m := &scripts{Rand: rand.New(rand.NewSource(seed))}
	for _, theme := range strings.Split(strings.TrimSpace(themes), "\n\n") {
		m.themes = append(m.themes, strings.Split(theme, "\n"))
	}
	return m
}

func pick[T any](m *scripts, list []T) T { return list[m.Intn(len(list))] }

// script returns lines, most of them of one theme.
func (m *scripts) script(least int) []string {
	theme := pick(m, m.themes)
	var lines []string
	for len(lines) < least {
		if m.Intn(8) == 0 {
			theme = pick(m, m.themes)
		}
		for _, pattern := range strings.Split(pick(m, theme), "; ") {
			line := m.made(pattern)
			if m.Intn(9) == 0 {
				line = m.spoiled(line)
			}
			lines = append(lines, line)
		}
	}
	return lines
}

// made returns a line of a pattern.
func (m *scripts) made(pattern string) string {
	var words []string
	for _, word := range strings.Split(pattern, " ") {
		body, many := strings.CutSuffix(word, "*")
		count := 1
		if many {
			count = m.Intn(7)
		}
		for range count {
			words = append(words, m.word(body))
		}
	}
	return strings.Join(words, " ")
}

func (m *scripts) word(pattern string) string {
	if low, high, ok := strings.Cut(pattern, ":"); ok {
		a, _ := strconv.Atoi(low)
		b, _ := strconv.Atoi(high)
		return strconv.Itoa(a + m.Intn(b-a+1))
	}
	return pick(m, strings.Split(pattern, "|"))
}

// wild are words that are hardly ever right.
var wild = []string{
	"", "-", "-0", "00", "007", "+1", "1e3", "0x1", "1_0", "x", "#", "try", "\t", "\r", "\x00", "\xff", "٣", "1/2", "2/4",
	"1/1", "-1", "99", "999999999", "-999999999", "1000000000", "-1000000000", "99999999999999999999",
}

// spoiled returns a line that is made from another one, and often malformed.
func (m *scripts) spoiled(line string) string {
	words := strings.Split(line, " ")
	i := m.Intn(len(words))
	switch m.Intn(9) {
	case 0:
		return "try " + line
	case 1:
		return "try " + m.spoiled(line)
	case 2:
		return "#" + line
	case 3:
		return line + "\n" + line
	case 4:
		return line + strings.Repeat(" 1", 493+m.Intn(10))
	case 5:
		words = append(words[:i], words[i+1:]...)
	case 6:
		words = append(words, pick(m, wild))
	default:
		words[i] = pick(m, wild)
	}
	return strings.Join(words, " ")
}
