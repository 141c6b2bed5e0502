package scroll_test

// The definitions of the chapter, followed word by word: what the package's results are
// held against. They try all signs, divisions and names, and share no code with it.

import (
	"iter"
	"math/big"
	"math/rand"
	"slices"

	"bolster/api"
)

// positionsOf returns the two positions of a letter.
func positionsOf(word []int, letter int) (p, q int) {
	p = slices.Index(word, letter)
	return p, p + 1 + slices.Index(word[p+1:], letter)
}

// isInterlaced reports whether between the two positions of one letter there is exactly one
// position of another.
func isInterlaced(word []int, a, b int) bool {
	p, q := positionsOf(word, a)
	n := 0
	for _, letter := range word[p+1 : q] {
		if letter == b {
			n++
		}
	}
	return n == 1
}

// withBoth counts the letters that are interlaced with both of two.
func withBoth(word []int, a, b int) int {
	n := 0
	for c := range len(word) / 2 {
		if isInterlaced(word, a, c) && isInterlaced(word, b, c) {
			n++
		}
	}
	return n
}

// end is an end of an edge: of the one that leads to a position, or from it.
type end struct {
	isIn     bool
	position int
}

// around returns the ends at the crossing of a letter, in their cyclic order.
func around(word, signs []int, letter int) []end {
	p, q := positionsOf(word, letter)
	inP, inQ, outP, outQ := end{true, p}, end{true, q}, end{false, p}, end{false, q}
	if signs[letter] == 1 {
		return []end{inP, inQ, outP, outQ}
	}
	return []end{inP, outQ, outP, inQ}
}

// step is an edge that is walked along in a direction.
type step struct {
	edge     int
	forwards bool
}

func (s step) written() int {
	if s.forwards {
		return s.edge
	}
	return -1 - s.edge
}

// after returns the step that comes after another one in its face.
func after(word, signs []int, s step) step {
	at := end{false, s.edge}
	if s.forwards {
		at = end{true, (s.edge + 1) % len(word)}
	}
	order := around(word, signs, word[at.position])
	next := order[(slices.Index(order, at)+1)%4]
	if next.isIn {
		return step{(next.position + len(word) - 1) % len(word), false}
	}
	return step{next.position, true}
}

// facesOf returns the faces.
func facesOf(word, signs []int) [][]int {
	var faces [][]int
	walked := map[step]bool{}
	for i := range 2 * len(word) {
		first := step{i / 2, i%2 == 0}
		var face []int
		for s := first; !walked[s]; s = after(word, signs, s) {
			walked[s] = true
			face = append(face, s.written())
		}
		if len(face) > 0 {
			least := slices.Index(face, slices.Min(face))
			faces = append(faces, slices.Concat(face[least:], face[:least]))
		}
	}
	slices.SortFunc(faces, slices.Compare[[]int])
	return faces
}

// genusOf returns the genus, as long as it is an integer.
func genusOf(word, signs []int) int {
	double := len(word)/2 + 2 - len(facesOf(word, signs))
	if double%2 != 0 {
		panic("half a genus")
	}
	return double / 2
}

// allSigns yields all signs of n letters.
func allSigns(n int) iter.Seq[[]int] {
	return func(yield func([]int) bool) {
		for i := range 1 << n {
			signs := make([]int, n)
			for letter := range signs {
				signs[letter] = 1 - 2*(i>>letter&1)
			}
			if !yield(signs) {
				return
			}
		}
	}
}

// leastOf returns the least genus, and the greatest signs with it.
func leastOf(word []int) (int, []int) {
	least, greatest := len(word), []int(nil)
	for signs := range allSigns(len(word) / 2) {
		genus := genusOf(word, signs)
		if genus < least || genus == least && slices.Compare(signs, greatest) > 0 {
			least, greatest = genus, signs
		}
	}
	return least, greatest
}

// areAllEven reports whether each letter is interlaced with an even number of letters:
// Rosenstiehl's first condition.
func areAllEven(word []int) bool {
	for a := range len(word) / 2 {
		if withBoth(word, a, a)%2 > 0 {
			return false
		}
	}
	return true
}

// areApartEven reports whether any two letters that are not interlaced have an even number
// of letters that are interlaced with both: his second condition.
func areApartEven(word []int) bool {
	for a := range len(word) / 2 {
		for b := range len(word) / 2 {
			if a != b && !isInterlaced(word, a, b) && withBoth(word, a, b)%2 > 0 {
				return false
			}
		}
	}
	return true
}

// isDivided reports whether the letters can be divided into two sets such that two
// interlaced letters have an even number of letters that are interlaced with both exactly
// if they are in different sets: his third condition.
func isDivided(word []int) bool {
	n := len(word) / 2
	areEven := map[api.Pair]bool{}
	for a := range n {
		for b := range n {
			if isInterlaced(word, a, b) {
				areEven[api.Pair{A: a, B: b}] = withBoth(word, a, b)%2 == 0
			}
		}
	}
	for set := range 1 << n {
		ok := true
		for pair, isEven := range areEven {
			ok = ok && isEven == (set>>pair.A&1 != set>>pair.B&1)
		}
		if ok {
			return true
		}
	}
	return false
}

// readings yields a word as it is read from each position on, in both directions.
func readings(word []int) iter.Seq[[]int] {
	return func(yield func([]int) bool) {
		for i := range word {
			l := slices.Concat(word[i:], word[:i])
			if !yield(slices.Clone(l)) {
				return
			}
			slices.Reverse(l)
			if !yield(l) {
				return
			}
		}
	}
}

// permutations returns all permutations of n elements.
func permutations(n int) [][]int {
	if n == 0 {
		return [][]int{nil}
	}
	var all [][]int
	for _, l := range permutations(n - 1) {
		for i := range n {
			all = append(all, slices.Insert(slices.Clone(l), i, n-1))
		}
	}
	return all
}

// renamed returns a word with other names for its letters.
func renamed(word, names []int) []int {
	var l []int
	for _, letter := range word {
		l = append(l, names[letter])
	}
	return l
}

// canonOf returns the least word among all that a word can become.
func canonOf(word []int) []int {
	least := word
	for l := range readings(word) {
		for _, names := range permutations(len(word) / 2) {
			if r := renamed(l, names); slices.Compare(r, least) < 0 {
				least = r
			}
		}
	}
	return least
}

// colorsOf colours the faces of a word that is plane with some signs: one after the other,
// each other than one beside it.
func colorsOf(word, signs []int) (black, white int) {
	faces := facesOf(word, signs)
	with := func(step int) int {
		return slices.IndexFunc(faces, func(face []int) bool { return slices.Contains(face, step) })
	}
	isBlack := map[int]bool{}
	var color func(face int, asBlack bool)
	color = func(face int, asBlack bool) {
		if was, ok := isBlack[face]; ok {
			if was != asBlack {
				panic("a face of two colours")
			}
			return
		}
		isBlack[face] = asBlack
		for _, s := range faces[face] {
			color(with(-1-s), !asBlack)
		}
	}
	color(with(0), true)
	for _, b := range isBlack {
		if b {
			black++
		}
	}
	return black, len(isBlack) - black
}

// wordsOf yields all words on n letters whose letters come in their order, or with any
// names.
func wordsOf(n int, anyNames bool) iter.Seq[[]int] {
	return func(yield func([]int) bool) {
		var extend func(word, times []int) bool
		extend = func(word, times []int) bool {
			if len(word) == 2*n {
				return yield(slices.Clone(word))
			}
			for letter := range times {
				if times[letter] == 2 {
					continue
				}
				times[letter]++
				ok := extend(append(word, letter), times)
				times[letter]--
				if !ok {
					return false
				}
				if times[letter] == 0 && !anyNames {
					break
				}
			}
			return true
		}
		extend(make([]int, 0, 2*n), make([]int, n))
	}
}

// small yields all words on at most four letters.
func small(yield func([]int) bool) {
	for n := 1; n <= 4; n++ {
		for word := range wordsOf(n, true) {
			if !yield(word) {
				return
			}
		}
	}
}

// random returns a random word on n letters.
func random(source *rand.Rand, n int) []int {
	word := source.Perm(2 * n)
	for i := range word {
		word[i] /= 2
	}
	return word
}

// randomSigns returns random signs of n letters.
func randomSigns(source *rand.Rand, n int) []int {
	signs := make([]int, n)
	for letter := range signs {
		signs[letter] = 1 - 2*source.Intn(2)
	}
	return signs
}

// point is a point of the plane, or a direction.
type point struct {
	x, y int64
}

func (p point) minus(q point) point { return point{p.x - q.x, p.y - q.y} }

// turn is above 0 if the second direction is to the left of the first one.
func turn(u, v point) int64 { return u.x*v.y - u.y*v.x }

// crossingAt returns where between its ends, at 0 and 1, a side of a polygon crosses
// another one, if it does.
func crossingAt(polygon []point, a, b int) (*big.Rat, bool) {
	u := polygon[(a+1)%len(polygon)].minus(polygon[a])
	v := polygon[(b+1)%len(polygon)].minus(polygon[b])
	to := polygon[b].minus(polygon[a])
	if turn(u, v) == 0 {
		return nil, false
	}
	at, other := big.NewRat(turn(to, v), turn(u, v)), big.NewRat(turn(to, u), turn(u, v))
	one := big.NewRat(1, 1)
	return at, at.Sign() > 0 && at.Cmp(one) < 0 && other.Sign() > 0 && other.Cmp(one) < 0
}

// engraved returns the word of a polygon that crosses itself, and how its crossings turn.
func engraved(polygon []point) (word, signs []int) {
	letters := map[[2]int]int{}
	for a := range polygon {
		ats := map[int]*big.Rat{}
		var sides []int
		for b := range polygon {
			if at, ok := crossingAt(polygon, a, b); ok {
				ats[b] = at
				sides = append(sides, b)
			}
		}
		slices.SortFunc(sides, func(b, c int) int { return ats[b].Cmp(ats[c]) })
		for _, b := range sides {
			pair := [2]int{min(a, b), max(a, b)}
			letter, ok := letters[pair]
			if !ok {
				letter = len(letters)
				letters[pair] = letter
				u := polygon[(a+1)%len(polygon)].minus(polygon[a])
				v := polygon[(b+1)%len(polygon)].minus(polygon[b])
				sign := 1
				if turn(u, v) < 0 {
					sign = -1
				}
				signs = append(signs, sign)
			}
			word = append(word, letter)
		}
	}
	return word, signs
}

// drawn yields words of random curves in the plane with at most as many crossings as there
// may be, and the signs with which they are drawn.
func drawn(yield func(word, signs []int) bool) {
	source := rand.New(rand.NewSource(81))
	for found := 0; found < 400; {
		polygon := make([]point, 4+source.Intn(6))
		for i := range polygon {
			polygon[i] = point{source.Int63n(100000), source.Int63n(100000)}
		}
		word, signs := engraved(polygon)
		n := len(signs)
		if n == 0 || n > api.MaxCross || n < api.MaxCross-1 && found%4 == 0 {
			continue
		}
		found++
		names := source.Perm(n)
		named := make([]int, n)
		for letter, sign := range signs {
			named[names[letter]] = sign
		}
		if !yield(renamed(word, names), named) {
			return
		}
	}
}

// words yields words of many kinds: all small ones, random ones, plane ones, and some that
// almost are.
func words(yield func([]int) bool) {
	for word := range small {
		if !yield(word) {
			return
		}
	}
	source := rand.New(rand.NewSource(82))
	for i := range 60 {
		if !yield(random(source, 5+i%(api.MaxCross-4))) {
			return
		}
	}
	for word := range drawn {
		if !yield(word) {
			return
		}
		i, j := source.Intn(len(word)), source.Intn(len(word))
		almost := slices.Clone(word)
		almost[i], almost[j] = almost[j], almost[i]
		if !yield(almost) {
			return
		}
	}
}
