package scroll

import (
	"iter"
	"slices"

	"bolster/api"
)

// The four ends of edges at a crossing, in their cyclic order if its sign is 1; if it is -1
// the order is the opposite one.
const (
	inFirst = iota
	inSecond
	outFirst
	outSecond
	allEnds
)

// curve is a word that is valid.
type curve struct {
	word   []int
	places [][]int // the two positions of each letter
}

// newCurve reads a word, or returns the error of one that is not valid.
func newCurve(word []int) (*curve, api.Errno) {
	if len(word) > 2*api.MaxCross {
		return nil, api.ErrLong
	}
	if len(word) == 0 || len(word)%2 == 1 {
		return nil, api.ErrForm
	}
	c := &curve{word, make([][]int, len(word)/2)}
	for position, letter := range word {
		if letter < 0 || letter >= len(c.places) || len(c.places[letter]) == 2 {
			return nil, api.ErrForm
		}
		c.places[letter] = append(c.places[letter], position)
	}
	return c, api.OK
}

// newSigned reads a word with signs.
func newSigned(word, signs []int) (*curve, api.Errno) {
	c, e := newCurve(word)
	if e != api.OK {
		return nil, e
	}
	isWrong := func(sign int) bool { return sign != 1 && sign != -1 }
	if len(signs) != len(c.places) || slices.ContainsFunc(signs, isWrong) {
		return nil, api.ErrForm
	}
	return c, api.OK
}

// arrival returns the letter to which a step leads, and the end by which it arrives there.
func (c *curve) arrival(step int) (letter, end int) {
	position, first, second := (step+1)%len(c.word), inFirst, inSecond
	if step < 0 {
		position, first, second = -1-step, outFirst, outSecond
	}
	letter = c.word[position]
	if position == c.places[letter][0] {
		return letter, first
	}
	return letter, second
}

// departure returns the step by which an end is left.
func (c *curve) departure(letter, end int) int {
	p, q := c.places[letter][0], c.places[letter][1]
	switch end {
	case inFirst:
		return -1 - (p+len(c.word)-1)%len(c.word)
	case inSecond:
		return -q // the edge that leads to q is q-1, as q is not the position 0
	case outFirst:
		return p
	}
	return q
}

// steps yields the steps of all faces, one face after the other, with whether a face begins.
// As the least step that is left begins the next face, the faces come in their order.
func (c *curve) steps(signs []int) iter.Seq2[int, bool] {
	return func(yield func(int, bool) bool) {
		edges := len(c.word)
		walked := make([]bool, 2*edges)
		for first := -edges; first < edges; first++ {
			for step := first; !walked[step+edges]; {
				walked[step+edges] = true
				if !yield(step, step == first) {
					return
				}
				letter, end := c.arrival(step)
				end = (end + signs[letter] + allEnds) % allEnds
				step = c.departure(letter, end)
			}
		}
	}
}

// faces returns the faces with some signs.
func (c *curve) faces(signs []int) [][]int {
	var faces [][]int
	for step, begins := range c.steps(signs) {
		if begins {
			faces = append(faces, nil)
		}
		last := len(faces) - 1
		faces[last] = append(faces[last], step)
	}
	return faces
}

// genus returns the genus with some signs.
func (c *curve) genus(signs []int) int {
	faces := 0
	for _, begins := range c.steps(signs) {
		if begins {
			faces++
		}
	}
	return (len(c.places) + 2 - faces) / 2
}

// least tries all signs that begin with the given ones, the greatest first. It returns the
// least genus, and the first signs with it.
func (c *curve) least(signs ...int) (int, []int) {
	if len(signs) == len(c.places) {
		return c.genus(signs), signs
	}
	genus, found := c.least(append(slices.Clone(signs), 1)...)
	if genus == 0 {
		return genus, found
	}
	other, later := c.least(append(slices.Clone(signs), -1)...)
	if other < genus {
		return other, later
	}
	return genus, found
}

// canon returns the least word that the word can become.
func (c *curve) canon() []int {
	least := c.reading(0, 1)
	for begin := range c.word {
		for _, direction := range []int{1, len(c.word) - 1} {
			if l := c.reading(begin, direction); slices.Compare(l, least) < 0 {
				least = l
			}
		}
	}
	return least
}

// reading returns the word as it is read from a position on, by steps of a direction, with
// the letters renamed in the order in which they come: no other names give less.
func (c *curve) reading(begin, direction int) []int {
	names := make([]int, len(c.places))
	named := 0
	var read []int
	for i := range c.word {
		letter := c.word[(begin+i*direction)%len(c.word)]
		if names[letter] == 0 {
			named++
			names[letter] = named // counted from 1 on, as 0 is none
		}
		read = append(read, names[letter]-1)
	}
	return read
}
