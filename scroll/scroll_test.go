package scroll_test

import (
	"math"
	"math/rand"
	"reflect"
	"slices"
	"testing"

	"bolster/api"
	"bolster/scroll"
)

func equalFaces(a, b [][]int) bool { return slices.EqualFunc(a, b, slices.Equal[[]int]) }

func TestExamples(t *testing.T) {
	kink, trefoil, torus := []int{0, 0}, []int{0, 1, 2, 0, 1, 2}, []int{0, 1, 0, 1}
	if l, e := scroll.Interlaced(kink); e != api.OK || len(l) != 0 {
		t.Errorf("Interlaced = %v, %d", l, e)
	}
	if signs, e := scroll.Plane(kink); e != api.OK || !slices.Equal(signs, []int{1}) {
		t.Errorf("Plane = %v, %d", signs, e)
	}
	if l, e := scroll.Faces(kink, []int{1}); e != api.OK || !equalFaces(l, [][]int{{-2}, {-1, 1}, {0}}) {
		t.Errorf("Faces = %v, %d", l, e)
	}
	if l, e := scroll.Interlaced(trefoil); e != api.OK || !slices.Equal(l, []api.Pair{{A: 0, B: 1}, {A: 0, B: 2}, {A: 1, B: 2}}) {
		t.Errorf("Interlaced = %v, %d", l, e)
	}
	if signs, e := scroll.Plane(trefoil); e != api.OK || !slices.Equal(signs, []int{1, -1, 1}) {
		t.Errorf("Plane = %v, %d", signs, e)
	}
	if ok, e := scroll.Drawn(trefoil); e != api.OK || !ok {
		t.Errorf("Drawn = %t, %d", ok, e)
	}
	if signs, e := scroll.Plane(torus); e != api.ErrNone || len(signs) != 0 {
		t.Errorf("Plane = %v, %d", signs, e)
	}
	if genus, signs, e := scroll.Least(torus); e != api.OK || genus != 1 || !slices.Equal(signs, []int{1, 1}) {
		t.Errorf("Least = %d, %v, %d", genus, signs, e)
	}
	if ok, e := scroll.Drawn(torus); e != api.OK || ok {
		t.Errorf("Drawn = %t, %d", ok, e)
	}
}

// The faces of a trefoil: one within, one without, and three that two edges go round.
func TestTrefoil(t *testing.T) {
	word, signs := []int{0, 1, 2, 0, 1, 2}, []int{1, -1, 1}
	want := [][]int{{-6, -2, -4}, {-5, 1}, {-3, 5}, {-1, 3}, {0, 4, 2}}
	if l, e := scroll.Faces(word, signs); e != api.OK || !equalFaces(l, want) {
		t.Errorf("Faces = %v, %d; want %v", l, e, want)
	}
	if black, white, e := scroll.Colors(word, signs); e != api.OK || black != 2 || white != 3 {
		t.Errorf("Colors = %d, %d, %d", black, white, e)
	}
}

func TestInterlaced(t *testing.T) {
	pairs := 0
	for word := range words {
		var want []api.Pair
		for a := range len(word) / 2 {
			for b := a + 1; b < len(word)/2; b++ {
				if isInterlaced(word, a, b) {
					want = append(want, api.Pair{A: a, B: b})
				}
			}
		}
		if l, e := scroll.Interlaced(word); e != api.OK || !slices.Equal(l, want) {
			t.Fatalf("Interlaced(%v) = %v, %d; want %v", word, l, e, want)
		}
		pairs += len(want)
	}
	if pairs < 10000 {
		t.Errorf("only %d pairs", pairs)
	}
}

// signed yields words with signs: all of the small ones, some of the greater ones, and
// those with which curves are drawn.
func signed(yield func(word, signs []int) bool) {
	for word := range small {
		for signs := range allSigns(len(word) / 2) {
			if !yield(word, signs) {
				return
			}
		}
	}
	source := rand.New(rand.NewSource(83))
	for word := range words {
		for range 3 {
			if len(word) > 8 && !yield(word, randomSigns(source, len(word)/2)) {
				return
			}
		}
	}
	drawn(yield)
}

func TestFacesGenusColors(t *testing.T) {
	genera := map[int]int{}
	for word, signs := range signed {
		want := facesOf(word, signs)
		if l, e := scroll.Faces(word, signs); e != api.OK || !equalFaces(l, want) {
			t.Fatalf("Faces(%v, %v) = %v, %d; want %v", word, signs, l, e, want)
		}
		wantGenus := (len(word)/2 + 2 - len(want)) / 2
		if genus, e := scroll.Genus(word, signs); e != api.OK || genus != wantGenus {
			t.Fatalf("Genus(%v, %v) = %d, %d; want %d", word, signs, genus, e, wantGenus)
		}
		genera[wantGenus]++
		black, white, e := scroll.Colors(word, signs)
		if wantGenus > 0 {
			if black != 0 || white != 0 || e != api.ErrNone {
				t.Fatalf("Colors(%v, %v) = %d, %d, %d; of genus %d", word, signs, black, white, e, wantGenus)
			}
			continue
		}
		if wantBlack, wantWhite := colorsOf(word, signs); black != wantBlack || white != wantWhite || e != api.OK {
			t.Fatalf("Colors(%v, %v) = %d, %d, %d; want %d, %d", word, signs, black, white, e, wantBlack, wantWhite)
		}
	}
	for genus := range 5 {
		if genera[genus] < 50 {
			t.Errorf("only %d words of genus %d", genera[genus], genus)
		}
	}
}

func TestPlaneLeast(t *testing.T) {
	genera, tried := map[int]int{}, 0
	for word := range words {
		if tried++; len(word) > 14 && tried%6 > 1 {
			continue
		}
		want, wantSigns := leastOf(word)
		if genus, signs, e := scroll.Least(word); e != api.OK || genus != want || !slices.Equal(signs, wantSigns) {
			t.Fatalf("Least(%v) = %d, %v, %d; want %d, %v", word, genus, signs, e, want, wantSigns)
		}
		genera[want]++
		signs, e := scroll.Plane(word)
		if want > 0 {
			if len(signs) > 0 || e != api.ErrNone {
				t.Fatalf("Plane(%v) = %v, %d; of genus %d", word, signs, e, want)
			}
		} else if e != api.OK || !slices.Equal(signs, wantSigns) {
			t.Fatalf("Plane(%v) = %v, %d; want %v", word, signs, e, wantSigns)
		}
	}
	for genus, n := range []int{200, 200, 20, 1} {
		if genera[genus] < n {
			t.Errorf("only %d words of genus %d", genera[genus], genus)
		}
	}
}

// What is drawn in the plane is plane with the signs with which it is drawn.
func TestDrawnInThePlane(t *testing.T) {
	large := 0
	for word, signs := range drawn {
		if genus, e := scroll.Genus(word, signs); e != api.OK || genus != 0 {
			t.Fatalf("Genus(%v, %v) = %d, %d", word, signs, genus, e)
		}
		if l, e := scroll.Plane(word); e != api.OK || slices.Compare(l, signs) < 0 {
			t.Fatalf("Plane(%v) = %v, %d; it is plane with %v", word, l, e, signs)
		}
		if ok, e := scroll.Drawn(word); e != api.OK || !ok {
			t.Fatalf("Drawn(%v) = %t, %d", word, ok, e)
		}
		if len(signs) >= api.MaxCross-1 {
			large++
		}
	}
	if large < 50 {
		t.Errorf("only %d large curves", large)
	}
}

func TestDrawn(t *testing.T) {
	kinds := map[[3]bool]int{}
	hold := func(word []int) {
		kind := [3]bool{areAllEven(word), areApartEven(word), isDivided(word)}
		if ok, e := scroll.Drawn(word); e != api.OK || ok != (kind == [3]bool{true, true, true}) {
			t.Fatalf("Drawn(%v) = %t, %d; the conditions: %v", word, ok, e, kind)
		}
		kinds[kind]++
	}
	for word := range words {
		hold(word)
	}
	for word := range wordsOf(6, false) {
		if areAllEven(word) {
			hold(word)
		}
	}
	// The letters of these cannot be divided, and none of those that contradict each other
	// is the first one.
	hold([]int{0, 1, 2, 0, 3, 4, 5, 6, 1, 2, 4, 3, 6, 5})
	hold([]int{0, 0, 1, 2, 3, 1, 4, 5, 6, 7, 2, 3, 5, 4, 7, 6})
	for a := range 8 {
		if kinds[[3]bool{a&1 > 0, a&2 > 0, a&4 > 0}] == 0 {
			t.Errorf("no word with %v", [3]bool{a&1 > 0, a&2 > 0, a&4 > 0})
		}
	}
}

func TestCanon(t *testing.T) {
	changed := 0
	hold := func(word []int) {
		want := canonOf(word)
		if l, e := scroll.Canon(word); e != api.OK || !slices.Equal(l, want) {
			t.Fatalf("Canon(%v) = %v, %d; want %v", word, l, e, want)
		}
		if !slices.Equal(word, want) {
			changed++
		}
	}
	for word := range small {
		hold(word)
	}
	source := rand.New(rand.NewSource(84))
	for i := range 60 {
		hold(random(source, 5+i%2))
	}
	if changed < 2000 {
		t.Errorf("only %d words changed", changed)
	}
}

// Words on many letters have too many names to try them all. Their canon is one of the
// words that they can become, and the letters of none of these can come in a better order
// than their own.
func TestCanonOfLongWords(t *testing.T) {
	for word := range words {
		if len(word) <= 8 {
			continue
		}
		var least []int
		for l := range readings(word) {
			names := make([]int, len(word)/2)
			next := 0
			for i, letter := range l {
				if !slices.Contains(l[:i], letter) {
					names[letter] = next
					next++
				}
			}
			if l = renamed(l, names); least == nil || slices.Compare(l, least) < 0 {
				least = l
			}
		}
		if l, e := scroll.Canon(word); e != api.OK || !slices.Equal(l, least) {
			t.Fatalf("Canon(%v) = %v, %d; want %v", word, l, e, least)
		}
	}
}

// calls are the functions of a word with signs; each one reports whether its results are
// zero values.
func calls(takesSigns bool) map[string]func(word, signs []int) (bool, api.Errno) {
	if takesSigns {
		return map[string]func(word, signs []int) (bool, api.Errno){
			"Faces": func(word, signs []int) (bool, api.Errno) { l, e := scroll.Faces(word, signs); return len(l) == 0, e },
			"Genus": func(word, signs []int) (bool, api.Errno) { n, e := scroll.Genus(word, signs); return n == 0, e },
			"Colors": func(word, signs []int) (bool, api.Errno) {
				a, b, e := scroll.Colors(word, signs)
				return a == 0 && b == 0, e
			},
		}
	}
	return map[string]func(word, signs []int) (bool, api.Errno){
		"Interlaced": func(word, _ []int) (bool, api.Errno) { l, e := scroll.Interlaced(word); return len(l) == 0, e },
		"Plane":      func(word, _ []int) (bool, api.Errno) { l, e := scroll.Plane(word); return len(l) == 0, e },
		"Least":      func(word, _ []int) (bool, api.Errno) { n, l, e := scroll.Least(word); return n == 0 && len(l) == 0, e },
		"Drawn":      func(word, _ []int) (bool, api.Errno) { ok, e := scroll.Drawn(word); return !ok, e },
		"Canon":      func(word, _ []int) (bool, api.Errno) { l, e := scroll.Canon(word); return len(l) == 0, e },
	}
}

// refused holds that all functions return an error, and zero values with it.
func refused(t *testing.T, want api.Errno, word, signs []int, withSigns ...bool) {
	t.Helper()
	for _, takesSigns := range withSigns {
		for name, call := range calls(takesSigns) {
			if zero, e := call(word, signs); e != want || !zero {
				t.Errorf("%s(%v, %v): %d, zero %t; want %d", name, word, signs, e, zero, want)
			}
		}
	}
}

func TestNoWords(t *testing.T) {
	refused(t, api.ErrForm, nil, nil, true, false)
	for _, word := range [][]int{{}, {0}, {0, 0, 0}, {0, 1}, {1, 1}, {0, 0, 0, 0}, {0, 0, 2, 2}, {1, 1, 2, 2}, {0, 1, 1, 1}, {0, 1, 0}, {0, 1, 0, 1, 0},
		{0, 0, 1}, {0, 1, 1, 2}, {-1, -1}, {0, 0, -1, -1}, {0, -1, 0, 1}, {math.MaxInt, math.MaxInt}, {math.MinInt, math.MinInt}, {0, math.MaxInt, 0, 1},
		slices.Repeat([]int{0}, 2*api.MaxCross), slices.Repeat([]int{0, 1, 2, 3, 4, 5, 6, 7, 8}, 2), make([]int, 2*api.MaxCross-1)} {
		signs := slices.Repeat([]int{1}, len(word)/2)
		if len(word) == 18 {
			word[17] = 9 // the last letter of 10, on a word of 9
		}
		refused(t, api.ErrForm, word, signs, true, false)
		refused(t, api.ErrForm, word, nil, true)
	}
}

func TestLongWords(t *testing.T) {
	long := make([]int, 2*api.MaxCross+2)
	for i := range long {
		long[i] = i / 2
	}
	signs := slices.Repeat([]int{1}, api.MaxCross+1)
	for _, word := range [][]int{long, long[1:], long[:2*api.MaxCross+1], make([]int, 1000), slices.Repeat([]int{-1}, 2*api.MaxCross+1)} {
		refused(t, api.ErrLong, word, signs, true, false)
		refused(t, api.ErrLong, word, nil, true)
		refused(t, api.ErrLong, word, []int{0, 2}, true)
	}
}

func TestSigns(t *testing.T) {
	for _, signs := range [][]int{nil, {}, {1}, {1, 1, 1}, {0, 1}, {1, 0}, {1, 2}, {-2, 1}, {1, -3}, {math.MaxInt, 1}, {1, math.MinInt}, {0, 0}, {1, -1, 0}} {
		refused(t, api.ErrForm, []int{0, 1, 0, 1}, signs, true)
		refused(t, api.ErrForm, []int{0, 0, 1, 1}, signs, true)
		refused(t, api.ErrForm, []int{0, 0, 1, 2}, signs, true)
	}
	refused(t, api.ErrForm, []int{0, 0, 1, 1}, slices.Repeat([]int{1}, 100), true)
}

// The greatest words are words.
func TestLimits(t *testing.T) {
	var kinks, all []int
	for letter := range api.MaxCross {
		kinks = append(kinks, letter, letter)
		all = append(all, letter)
	}
	signs := slices.Repeat([]int{1}, api.MaxCross)
	if l, e := scroll.Faces(kinks, signs); e != api.OK || len(l) != api.MaxCross+2 {
		t.Errorf("Faces = %v, %d", l, e)
	}
	if l, e := scroll.Plane(kinks); e != api.OK || !slices.Equal(l, signs) {
		t.Errorf("Plane = %v, %d", l, e)
	}
	all = slices.Repeat(all, 2)
	if l, e := scroll.Interlaced(all); e != api.OK || len(l) != api.MaxCross*(api.MaxCross-1)/2 {
		t.Errorf("Interlaced = %v, %d", l, e)
	}
	want, wantSigns := leastOf(all)
	if genus, l, e := scroll.Least(all); e != api.OK || genus != want || !slices.Equal(l, wantSigns) {
		t.Errorf("Least = %d, %v, %d; want %d, %v", genus, l, e, want, wantSigns)
	}
	if l, e := scroll.Canon(all); e != api.OK || !slices.Equal(l, all) {
		t.Errorf("Canon = %v, %d", l, e)
	}
}

// Arguments are not changed, and results are new memory: what is written into them is not
// seen again.
func TestMemory(t *testing.T) {
	for word, signs := range drawn {
		keptWord, keptSigns := slices.Clone(word), slices.Clone(signs)
		var results [2][]any
		for i := range results {
			pairs, _ := scroll.Interlaced(word)
			faces, _ := scroll.Faces(word, signs)
			plane, _ := scroll.Plane(word)
			genus, least, _ := scroll.Least(word)
			canon, _ := scroll.Canon(word)
			black, white, _ := scroll.Colors(word, signs)
			var walked [][]int
			for _, face := range faces {
				walked = append(walked, slices.Clone(face))
			}
			results[i] = []any{slices.Clone(pairs), walked, slices.Clone(plane), genus, slices.Clone(least), slices.Clone(canon), black, white}
			for k, l := range append(faces, plane, least, canon) {
				if k < len(faces) {
					_ = append(l, 99) // which must not reach into the next face
					if !slices.Equal(l, walked[k]) {
						t.Fatalf("Faces(%v, %v) = %v", word, signs, faces)
					}
				}
				for at := range l {
					l[at] = 77
				}
			}
			clear(pairs)
		}
		if !slices.Equal(word, keptWord) || !slices.Equal(signs, keptSigns) {
			t.Fatalf("%v, %v were changed from %v, %v", word, signs, keptWord, keptSigns)
		}
		if !reflect.DeepEqual(results[0], results[1]) {
			t.Fatalf("%v, then %v", results[0], results[1])
		}
	}
}
