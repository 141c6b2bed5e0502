package scroll_test

import (
	"math/rand"
	"slices"
	"testing"

	"bolster/api"
	"bolster/scroll"
)

// faces calls Faces for a word with signs that are well-formed.
func faces(t *testing.T, word, signs []int) [][]int {
	t.Helper()
	l, e := scroll.Faces(word, signs)
	if e != api.OK {
		t.Fatalf("Faces(%v, %v): %d", word, signs, e)
	}
	return l
}

// genus calls Genus for a word with signs that are well-formed.
func genus(t *testing.T, word, signs []int) int {
	t.Helper()
	n, e := scroll.Genus(word, signs)
	if e != api.OK {
		t.Fatalf("Genus(%v, %v): %d", word, signs, e)
	}
	return n
}

// least calls Least for a word that is well-formed, and reports whether Plane and Drawn
// agree with it.
func least(t *testing.T, word []int) int {
	t.Helper()
	n, signs, e := scroll.Least(word)
	plane, planeE := scroll.Plane(word)
	ok, drawnE := scroll.Drawn(word)
	if e != api.OK || drawnE != api.OK || ok != (n == 0) || n == 0 && (planeE != api.OK || !slices.Equal(plane, signs)) || n > 0 && planeE != api.ErrNone {
		t.Fatalf("%v: Least = %d, %v, %d; Plane = %v, %d; Drawn = %t, %d", word, n, signs, e, plane, planeE, ok, drawnE)
	}
	return n
}

// C1: all faces together walk along 4n steps, and the genus is an integer, 0 or more, for
// any signs.
func TestC1Euler(t *testing.T) {
	for word, signs := range signed {
		l := faces(t, word, signs)
		steps := slices.Concat(l...)
		slices.Sort(steps)
		if len(steps) != 2*len(word) || len(slices.Compact(steps)) != 2*len(word) || steps[0] != -len(word) || steps[2*len(word)-1] != len(word)-1 {
			t.Fatalf("Faces(%v, %v) = %v", word, signs, l)
		}
		n := genus(t, word, signs)
		if n < 0 || 2*n != len(word)/2+2-len(l) {
			t.Fatalf("Genus(%v, %v) = %d; the faces are %v", word, signs, n, l)
		}
	}
}

// C2: in a plane word the number of positions between the two positions of each letter is
// even.
func TestC2Gauss(t *testing.T) {
	plane, not := 0, 0
	for word := range words {
		isEven := true
		for letter := range len(word) / 2 {
			p, q := positionsOf(word, letter)
			isEven = isEven && (q-p)%2 == 1
		}
		_, e := scroll.Plane(word)
		if e == api.OK && !isEven {
			t.Fatalf("Plane(%v): %d", word, e)
		}
		if e == api.OK {
			plane++
		} else if isEven {
			not++
		}
	}
	if plane < 300 || not < 20 {
		t.Errorf("%d words are plane, %d that might be are not", plane, not)
	}
}

// C3: Drawn is true exactly if the word is plane; all words on at most six letters are
// tried, and greater ones.
func TestC3Rosenstiehl(t *testing.T) {
	plane, not := 0, 0
	hold := func(word []int) {
		if least(t, word) == 0 {
			plane++
		} else {
			not++
		}
	}
	for n := 1; n <= 6; n++ {
		for word := range wordsOf(n, false) {
			hold(word)
		}
	}
	for word := range words {
		hold(word)
	}
	if plane < 1000 || not < 10000 {
		t.Errorf("%d words are plane, %d are not", plane, not)
	}
}

// C4: with all signs changed a word has as many faces, and the same genus.
func TestC4Turned(t *testing.T) {
	for word, signs := range signed {
		turned := slices.Clone(signs)
		for letter := range turned {
			turned[letter] = -turned[letter]
		}
		if len(faces(t, word, signs)) != len(faces(t, word, turned)) || genus(t, word, signs) != genus(t, word, turned) {
			t.Fatalf("%v with %v: genus %d, turned %d", word, signs, genus(t, word, signs), genus(t, word, turned))
		}
	}
}

// C5: words with the same Canon have the same least genus, and as many interlaced pairs;
// Canon of Canon is Canon.
func TestC5Canon(t *testing.T) {
	type found struct{ genus, pairs int }
	kinds := map[[2 * api.MaxCross]int]found{}
	source := rand.New(rand.NewSource(85))
	seen := 0
	hold := func(word, from []int) []int {
		canon, e := scroll.Canon(word)
		again, againE := scroll.Canon(canon)
		if e != api.OK || againE != api.OK || !slices.Equal(canon, again) || slices.Compare(canon, from) > 0 {
			t.Fatalf("Canon(%v) = %v, %d; of it %v, %d; from %v", word, canon, e, again, againE, from)
		}
		pairs, e := scroll.Interlaced(word)
		is := found{least(t, word), len(pairs)}
		var key [2 * api.MaxCross]int
		copy(key[:], canon)
		was, ok := kinds[key]
		if e != api.OK || ok && was != is {
			t.Fatalf("%v is %v; its canon %v is %v", word, is, canon, was)
		}
		if ok {
			seen++
		}
		kinds[key] = is
		return canon
	}
	for word := range words {
		canon := hold(word, word)
		i, names := source.Intn(len(word)), source.Perm(len(word)/2)
		other := renamed(slices.Concat(word[i:], word[:i]), names)
		if source.Intn(2) == 0 {
			slices.Reverse(other)
		}
		if l := hold(other, word); !slices.Equal(l, canon) {
			t.Fatalf("Canon(%v) = %v, but Canon(%v) = %v", word, canon, other, l)
		}
	}
	if seen < 3000 || len(kinds) < 300 {
		t.Errorf("%d of %d kinds were seen again", seen, len(kinds))
	}
}

// C6: black and white faces together are n + 2.
func TestC6Colours(t *testing.T) {
	coloured := 0
	for word, signs := range signed {
		black, white, e := scroll.Colors(word, signs)
		if (e == api.OK) != (genus(t, word, signs) == 0) || e == api.OK && (black < 1 || white < 1 || black+white != len(word)/2+2) {
			t.Fatalf("Colors(%v, %v) = %d, %d, %d", word, signs, black, white, e)
		}
		if e == api.OK {
			coloured++
		}
	}
	if coloured < 1000 {
		t.Errorf("only %d curves", coloured)
	}
}

// C7: putting a new letter twice, side by side, anywhere into a word changes neither whether
// it is plane, nor its least genus.
func TestC7Kinks(t *testing.T) {
	genera := map[int]int{}
	for word := range words {
		n := len(word) / 2
		if n == api.MaxCross {
			continue
		}
		want := least(t, word)
		for at := range len(word) + 1 {
			if n > 6 && at%5 > 0 {
				continue
			}
			if l := slices.Insert(slices.Clone(word), at, n, n); least(t, l) != want {
				t.Fatalf("the least genus of %v is %d, of %v %d", word, want, l, least(t, l))
			}
		}
		if l := slices.Concat([]int{n}, word, []int{n}); least(t, l) != want {
			t.Fatalf("the least genus of %v is %d, of %v %d", word, want, l, least(t, l))
		}
		genera[want]++
	}
	if genera[0] < 300 || genera[1] < 300 || genera[2] < 20 {
		t.Errorf("words by genus: %v", genera)
	}
}
