package cutler_test

import (
	"fmt"
	"math/big"
	"regexp"
	"slices"
	"strconv"
	"strings"

	"bolster/api"
	"bolster/claim"
	"bolster/gear"
	"bolster/pair"
	"bolster/rhythm"
	"bolster/ring"
	"bolster/scroll"
	"bolster/shaft"
	"bolster/store"
	"bolster/teeth"
	"bolster/temper"
	"bolster/water"
	"bolster/wear"
)

// The chapter's commands; N is a number, Q a Num, W any word, and what stands before dots
// may be there any number of times.
const table = `
rhythm W
even N N
gaps N N N
wheels N
belt N N N N
speeds
ratio N N
group
place N N...
river
alone N...
aspires N...
calls N...
lives Q...
renew N
mean
spares N N
replace Q Q
cost N...
pairs
lacks N
pairing N N
phase
row N W
move N N N N
jolt N N
kernel
choose N N N
play N N N N...
power N
job N N N N
order N N
shaft
overfull
scroll N...
faces N N...
terms N N
near N N N
root N
train N N N N...
beats N N
markov N
claims N
attack N N
granted
preferred
stable
complete
odd
ring chang|peterson N...
start N
pass N
leaders
work N
task N N
idle N
deliver N
ended
put W W
delete W
get N W
scan N
view
drop N
sync
flush
compact
arm N
restart N
open
clear river|costs|oven
`

// forms are the commands' lines as regular expressions, by their first words.
func forms() map[string]*regexp.Regexp {
	forms := map[string]*regexp.Regexp{}
	for _, row := range strings.Split(strings.TrimSpace(table), "\n") {
		words := strings.Split(row, " ")
		form := "^" + words[0]
		for _, word := range words[1:] {
			kind, many := strings.CutSuffix(word, "...")
			switch kind {
			case "N":
				kind = "0|-?[1-9][0-9]{0,8}"
			case "Q":
				kind = "-?[0-9]+(?:/[0-9]+)?"
			case "W":
				kind = "[^ ]+"
			}
			form += "(?: (?:" + kind + "))"
			if many {
				form += "*"
			}
		}
		forms[words[0]] = regexp.MustCompile(form + "$")
	}
	return forms
}

var known = forms()

// isNum reports whether a word that looks like a number is in lowest terms.
func isNum(word string) bool {
	x, ok := new(big.Rat).SetString(word)
	return ok && x.RatString() == word
}

// workshop is what the chapter describes: a workshop is the lines that it has done, and each
// state is found in them when it is needed.
type workshop struct{ lines []string }

// reply returns the reply to a line.
func (w *workshop) reply(s string) (text string) {
	line := strings.SplitN(s, "\n", 2)[0]
	defer func() {
		if r := recover(); r != nil {
			text = fmt.Sprintln("!", int(r.(api.Errno)))
		}
	}()
	if len(line) > 1000 {
		panic(api.ErrLong)
	}
	if line == "" || strings.HasPrefix(line, "#") {
		return ""
	}
	if rest, ok := strings.CutPrefix(line, "try "); ok {
		if rest == "" || rest == "try" || strings.HasPrefix(rest, "try ") {
			panic(api.ErrForm)
		}
		other := workshop{slices.Clone(w.lines)}
		return other.reply(rest)
	}
	words := strings.Split(line, " ")
	form := known[words[0]]
	if form == nil || !form.MatchString(line) {
		panic(api.ErrForm)
	}
	if (words[0] == "lives" || words[0] == "replace") && !all(words[1:], isNum) {
		panic(api.ErrForm)
	}
	if ofStore[words[0]] {
		w.lines = append(w.lines, line) // also if it is refused, since it may break the store
		return w.storeReply()
	}
	text = w.answer(words[0], words[1:])
	w.lines = append(w.lines, line)
	return text
}

func all[T any](list []T, is func(T) bool) bool {
	return !slices.ContainsFunc(list, func(x T) bool { return !is(x) })
}

// since returns the words of those lines of some commands that were done since the last one
// that begins with a text; of that one, too.
func (w *workshop) since(begin string, names ...string) [][]string {
	var found [][]string
	for _, line := range w.lines {
		words := strings.Split(line, " ")
		if line == begin || strings.HasPrefix(line, begin+" ") {
			found = [][]string{words}
		} else if slices.Contains(names, words[0]) {
			found = append(found, words)
		}
	}
	return found
}

// ints returns the numbers that words are.
func ints(words []string) []int {
	var l []int
	for _, word := range words {
		n, err := strconv.Atoi(word)
		if err != nil {
			panic(err)
		}
		l = append(l, n)
	}
	return l
}

// must gives the line up with an error.
func must(e api.Errno) {
	if e != api.OK {
		panic(e)
	}
}

// full gives the line up if there are as many of something as there may be.
func full(count, most int) {
	if count >= most {
		panic(api.ErrFull)
	}
}

// show returns a line of a word and of a list.
func show[T any](name string, list ...T) string {
	text := name
	for _, x := range list {
		if word := fmt.Sprint(x); word != "" {
			text += " " + word
		} else {
			text += " -"
		}
	}
	return text + "\n"
}

// showAll returns a line of a word and of a list for each of some lists.
func showAll[T any](name string, lists ...[]T) string {
	text := ""
	for _, list := range lists {
		text += show(name, list...)
	}
	return text
}

func showBool(is bool) string { return map[bool]string{true: "yes", false: "no"}[is] }

// answer returns the reply of a command that is none of the store.
func (w *workshop) answer(name string, words []string) string {
	switch name {
	case "rhythm", "even", "gaps", "scroll", "faces", "terms", "near", "root", "train", "beats", "markov":
		return study(name, words)
	case "wheels", "belt", "speeds", "ratio", "group":
		return w.gear(name, words)
	case "place", "river", "alone", "aspires", "calls":
		return w.water(name, words)
	case "renew", "mean", "spares", "replace":
		return w.wear(name, words)
	case "cost", "pairs", "lacks", "pairing":
		return w.pair(name, words)
	case "phase", "row", "move", "jolt", "kernel", "choose", "play":
		return w.temper(name, words)
	case "power", "job", "order", "shaft", "overfull":
		return w.shaft(name, words)
	case "claims", "attack", "granted", "preferred", "stable", "complete", "odd":
		return w.claim(name, words)
	case "ring", "start", "pass", "leaders":
		return w.ring(name, words)
	case "work", "task", "idle", "deliver", "ended":
		return w.work(name, words)
	}
	return "" // lives, clear
}

func study(name string, words []string) string {
	if name == "rhythm" {
		return studyRhythm(words[0])
	}
	n := ints(words)
	switch name {
	case "even":
		s, e := rhythm.Even(n[0], n[1])
		must(e)
		return show("even", s)
	case "gaps":
		l, e := rhythm.Gaps(n[0], n[1], n[2])
		must(e)
		return show("gaps", l...)
	case "scroll":
		genus, signs, e := scroll.Least(n)
		must(e)
		drawn, e := scroll.Drawn(n)
		must(e)
		canon, e := scroll.Canon(n)
		must(e)
		return show("genus", genus) + show("signs", signs...) + show("drawn", showBool(drawn)) + show("canon", canon...)
	case "faces":
		if k := n[0]; k < 0 || len(n)-1 < k {
			panic(api.ErrArg)
		}
		l, e := scroll.Faces(n[1:1+n[0]], n[1+n[0]:])
		must(e)
		return showAll("face", l...)
	case "terms":
		l, e := teeth.Terms(n[0], n[1])
		must(e)
		return show("terms", l...)
	case "near":
		p, q, e := teeth.Near(n[0], n[1], n[2])
		must(e)
		return show("near", p, q)
	case "root":
		whole, period, e := teeth.Root(n[0])
		must(e)
		x, y, e := teeth.Pell(n[0], 1)
		must(e)
		return show("root", whole) + show("period", period...) + show("pell", x, y)
	case "train":
		l, e := teeth.Train(n[0], n[1], n[3:], n[2])
		must(e)
		return showAll("pair", l...)
	case "beats":
		s, e := teeth.Beats(n[0], n[1])
		must(e)
		return show("beats", s)
	}
	l, e := teeth.Markov(n[0])
	must(e)
	return show("markov", l...)
}

func studyRhythm(s string) string {
	periods, e := rhythm.Periods(s)
	must(e)
	lyndon, e := rhythm.Lyndon(s)
	must(e)
	turn, e := rhythm.Turn(s)
	must(e)
	critical, e := rhythm.Critical(s)
	must(e)
	runs, e := rhythm.Runs(s)
	must(e)
	text := show("periods", periods...) + show("lyndon", lyndon...) + show("turn", turn) + show("critical", critical...)
	for _, r := range runs {
		text += show("run", r.From, r.To, r.Period)
	}
	return text
}

func (w *workshop) gear(name string, words []string) string {
	n, belts := 1, []api.Belt(nil)
	for _, done := range w.since("wheels", "belt") {
		l := ints(done[1:])
		if done[0] == "wheels" {
			n = l[0]
		} else {
			belts = append(belts, api.Belt{A: l[0], B: l[1], Over: l[2], Under: l[3]})
		}
	}
	switch name {
	case "wheels":
		if k := ints(words)[0]; k < 1 || k > 10 {
			panic(api.ErrArg)
		}
		return ""
	case "belt":
		full(len(belts), 16)
		return ""
	case "ratio":
		l := ints(words)
		ratio, e := gear.Ratio(n, belts, l[0], l[1])
		must(e)
		return show("ratio", ratio)
	case "group":
		primes, rows, e := gear.Group(n, belts)
		must(e)
		return show("primes", primes...) + showAll("row", rows...)
	}
	speeds, e := gear.Speeds(n, belts)
	if e != api.ErrNone {
		must(e)
		return show("speeds", speeds...)
	}
	block, e := gear.Block(n, belts)
	must(e)
	slip, e := gear.Slip(n, belts)
	must(e)
	return show("block", block...) + show("slip", slip...)
}

func (w *workshop) water(name string, words []string) string {
	var flow []int
	var gains [][]int
	for _, done := range w.since("clear river", "place") {
		if done[0] == "place" {
			l := ints(done[1:])
			flow, gains = append(flow, l[0]), append(gains, l[1:])
		}
	}
	n := ints(words)
	switch name {
	case "place":
		full(len(flow), 8)
		return ""
	case "alone":
		worth, e := water.Alone(flow, gains, n)
		must(e)
		return show("worth", worth)
	case "aspires":
		worth, e := water.Aspires(flow, gains, n)
		must(e)
		return show("worth", worth)
	case "calls":
		if len(n)%2 == 1 {
			panic(api.ErrForm)
		}
		use, e := water.Calls(flow, n[:len(n)/2], n[len(n)/2:])
		must(e)
		return show("use", use...)
	}
	best, worth, e := water.Best(flow, gains)
	must(e)
	shares, e := water.Shares(flow, gains)
	must(e)
	prices, e := water.Prices(flow, gains)
	must(e)
	return show("best", best...) + show("worth", worth) + show("shares", shares...) + show("prices", prices...)
}

func (w *workshop) wear(name string, words []string) string {
	var lives []api.Num
	for _, done := range w.since("lives") {
		for _, word := range done[1:] {
			lives = append(lives, api.Num(word))
		}
	}
	switch name {
	case "renew":
		l, e := wear.Renew(lives, ints(words)[0])
		must(e)
		return show("renew", l...)
	case "mean":
		mean, span, e := wear.Mean(lives)
		must(e)
		return show[any]("mean", mean, span)
	case "spares":
		chance, e := wear.Spares(lives, ints(words)[0], ints(words)[1])
		must(e)
		return show("spares", chance)
	}
	age, rate, e := wear.Replace(lives, api.Num(words[0]), api.Num(words[1]))
	must(e)
	return show[any]("replace", age, rate)
}

func (w *workshop) pair(name string, words []string) string {
	var costs [][]int
	for _, done := range w.since("clear costs", "cost") {
		if done[0] == "cost" {
			costs = append(costs, ints(done[1:]))
		}
	}
	n := ints(words)
	switch name {
	case "cost":
		full(len(costs), 8)
		return ""
	case "lacks":
		l, e := pair.Lacks(costs, n[0])
		if e != api.ErrNone {
			must(e)
			return show("lacks", l...)
		}
		count, e := pair.Count(costs, n[0])
		must(e)
		return show("count", count)
	case "pairing":
		l, e := pair.At(costs, n[0], n[1])
		must(e)
		return show("pairing", l...)
	}
	_, worst, e := pair.Worst(costs)
	must(e)
	smooth, e := pair.Smooth(costs)
	must(e)
	_, cheapest, e := pair.Cheapest(costs)
	must(e)
	_, even, e := pair.Even(costs)
	must(e)
	return show("worst", worst) + show("smooth", smooth...) + show("cheapest", cheapest) + show("even", even)
}

// oven returns the oven.
func (w *workshop) oven() api.Oven {
	o := api.Oven{Safe: [][]string{nil}}
	for _, done := range w.since("clear oven", "phase", "row", "move", "jolt") {
		switch done[0] {
		case "phase":
			o.Safe = append(o.Safe, nil)
		case "row":
			phase := ints(done[1:2])[0]
			o.Safe[phase] = append(o.Safe[phase], done[2])
		case "move":
			l := ints(done[1:])
			o.Moves = append(o.Moves, api.Move{From: l[0], To: l[1], X: l[2], Y: l[3]})
		case "jolt":
			l := ints(done[1:])
			o.Jolts = append(o.Jolts, api.Jolt{X: l[0], Y: l[1]})
		}
	}
	return o
}

func (w *workshop) temper(name string, words []string) string {
	o := w.oven()
	switch name {
	case "phase":
		full(len(o.Safe), 4)
		return ""
	case "row":
		phase := ints(words[:1])[0]
		if phase < 0 || phase >= len(o.Safe) {
			panic(api.ErrArg)
		}
		full(len(o.Safe[phase]), 16)
		return ""
	case "move":
		full(len(o.Moves), 16)
		return ""
	case "jolt":
		full(len(o.Jolts), 4)
		return ""
	case "kernel":
		kernel, e := temper.Kernel(o)
		must(e)
		text := ""
		for phase, rows := range kernel {
			for _, row := range rows {
				text += show[any]("row", phase, row)
			}
		}
		return text
	}
	n := ints(words)
	cell := api.Cell{Phase: n[0], X: n[1], Y: n[2]}
	if name == "play" {
		cells, e := temper.Play(o, cell, n[3:])
		must(e)
		text := ""
		for _, c := range cells {
			text += show("cell", c.Phase, c.X, c.Y)
		}
		return text
	}
	move, e := temper.Choose(o, cell)
	if e != api.ErrNone {
		must(e)
		return show("choose", move)
	}
	lost, e := temper.Lost(o, cell)
	must(e)
	return show("lost", lost)
}

func (w *workshop) shaft(name string, words []string) string {
	s := api.Shaft{Power: 1}
	for _, done := range w.since("power", "job", "order") {
		l := ints(done[1:])
		switch done[0] {
		case "power":
			s.Power = l[0]
		case "job":
			s.Jobs = append(s.Jobs, api.Job{From: l[0], To: l[1], Length: l[2], Power: l[3]})
		case "order":
			s.Orders = append(s.Orders, api.Order{Before: l[0], After: l[1]})
		}
	}
	switch name {
	case "power":
		if n := ints(words)[0]; n < 1 || n > 20 {
			panic(api.ErrArg)
		}
		return ""
	case "job":
		full(len(s.Jobs), 6)
		return ""
	case "order":
		full(len(s.Orders), 20)
		return ""
	case "overfull":
		a, b, e := shaft.Overfull(s)
		if e == api.ErrNone {
			return "fine\n"
		}
		must(e)
		return show("overfull", a, b)
	}
	first, e := shaft.First(s)
	if e == api.ErrNone {
		proof, e := shaft.Refuse(s)
		must(e)
		proves, e := shaft.Proves(s, proof)
		must(e)
		return show("refused", showBool(proves))
	}
	must(e)
	short, end, e := shaft.Short(s)
	must(e)
	return show("first", first...) + show("short", short...) + show("end", end)
}

func (w *workshop) claim(name string, words []string) string {
	n, attacks := 1, []api.Pair(nil)
	for _, done := range w.since("claims", "attack") {
		l := ints(done[1:])
		if done[0] == "claims" {
			n = l[0]
		} else {
			attacks = append(attacks, api.Pair{A: l[0], B: l[1]})
		}
	}
	switch name {
	case "claims":
		if k := ints(words)[0]; k < 1 || k > 12 {
			panic(api.ErrArg)
		}
		return ""
	case "attack":
		full(len(attacks), 40)
		return ""
	case "granted":
		granted, e := claim.Granted(n, attacks)
		must(e)
		ideal, e := claim.Ideal(n, attacks)
		must(e)
		return show("granted", granted...) + show("ideal", ideal...)
	case "odd":
		odd, e := claim.Odd(n, attacks)
		if e == api.ErrNone {
			return "fine\n"
		}
		must(e)
		return show("odd", odd...)
	}
	sets, e := map[string]func(int, []api.Pair) ([][]int, api.Errno){
		"preferred": claim.Preferred, "stable": claim.Stable, "complete": claim.Complete,
	}[name](n, attacks)
	must(e)
	return showAll("set", sets...)
}

func (w *workshop) ring(name string, words []string) string {
	var r *ring.Ring
	places := 0
	for _, done := range append(w.since("ring", "start", "pass"), append([]string{name}, words...)) {
		var e api.Errno
		switch done[0] {
		case "ring":
			r, e = ring.New(ints(done[2:]), done[1] == "peterson")
			places = len(done) - 2
		case "start":
			e = r.Start(ints(done[1:])[0])
		case "pass":
			e = r.Deliver(ints(done[1:])[0])
		}
		must(e)
	}
	if name != "leaders" {
		return ""
	}
	if r == nil {
		panic(api.ErrState)
	}
	var leaders []int
	for i := range places {
		leaders = append(leaders, r.Leader(i))
	}
	return show("leaders", leaders...) + show("sent", r.Sent())
}

func (w *workshop) work(name string, words []string) string {
	var c *ring.Work
	for _, done := range append(w.since("work", "task", "idle", "deliver"), append([]string{name}, words...)) {
		l, e := ints(done[1:]), api.OK
		switch done[0] {
		case "work":
			c, e = ring.Begin(l[0])
		case "task":
			e = c.Send(l[0], l[1])
		case "idle":
			e = c.Idle(l[0])
		case "deliver":
			e = c.Deliver(l[0])
		}
		must(e)
	}
	if name != "ended" {
		return ""
	}
	if c == nil {
		panic(api.ErrState)
	}
	return showBool(c.Ended()) + "\n"
}

var ofStore = map[string]bool{
	"put": true, "delete": true, "get": true, "scan": true, "view": true, "drop": true, "sync": true,
	"flush": true, "compact": true, "arm": true, "restart": true, "open": true,
}

// storeReply does all lines of the store, and returns the reply to the last one.
func (w *workshop) storeReply() (text string) {
	disk := store.NewDisk()
	s, e := store.Open(disk)
	must(e)
	for _, line := range w.lines {
		words := strings.Split(line, " ")
		if !ofStore[words[0]] {
			continue
		}
		text, e = "", api.OK
		switch words[0] {
		case "put":
			value := words[2]
			if value == "-" {
				value = ""
			}
			e = s.Apply([]api.Change{{Key: words[1], Value: value}})
		case "delete":
			e = s.Apply([]api.Change{{Key: words[1], Delete: true}})
		case "get":
			var value string
			value, e = s.Get(ints(words[1:2])[0], words[2])
			text = show("value", value)
		case "scan":
			var entries []api.Entry
			entries, e = s.Scan(ints(words[1:])[0], "", "")
			for _, entry := range entries {
				text += show("entry", entry.Key, entry.Value)
			}
		case "view":
			var n int
			n, e = s.View()
			text = show("view", n)
		case "drop":
			e = s.Drop(ints(words[1:])[0])
		case "sync":
			e = s.Sync()
		case "flush":
			e = s.Flush()
		case "compact":
			e = s.Compact()
		case "arm":
			disk.Arm(ints(words[1:])[0])
		case "restart":
			disk.Restart(ints(words[1:])[0])
		case "open":
			s, e = store.Open(disk)
		}
	}
	must(e)
	return text
}
