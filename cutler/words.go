package cutler

import (
	"strconv"
	"strings"

	"bolster/api"
	"bolster/exact"
)

// arguments are the words of a line without the first one.
type arguments struct {
	numbers []int
	texts   []string
}

// read returns the arguments that words are if a pattern names their kinds, or ErrForm. (The
// last kind of a pattern that ends with dots is that of any number of words.)
func read(pattern string, words []string) (a arguments, e api.Errno) {
	defer func() {
		if recover() != nil {
			a, e = arguments{}, api.ErrForm
		}
	}()
	fixed, open := strings.CutSuffix(pattern, " ...")
	kinds := strings.Fields(fixed)
	must(len(words) == len(kinds) || open && len(words) >= len(kinds)-1)
	for i, word := range words {
		a.take(kinds[min(i, len(kinds)-1)], word)
	}
	return a, api.OK
}

// must panics where a word is malformed, so that whatever is being read is given up.
func must(wellFormed bool) {
	if !wellFormed {
		panic("malformed")
	}
}

// take takes a word in, as its kind asks for.
func (a *arguments) take(kind, word string) {
	must(word != "")
	switch kind {
	case "NUM", "RULE", "WHAT":
		must(isOf(kind, word))
		fallthrough
	case "WORD", "KEY", "STRING":
		a.texts = append(a.texts, strings.Clone(word))
	default:
		a.numbers = append(a.numbers, number(word))
	}
}

// isOf reports whether a word is one of those of a kind.
func isOf(kind, word string) bool {
	switch kind {
	case "RULE":
		return word == "chang" || word == "peterson"
	case "WHAT":
		return word == "river" || word == "costs" || word == "oven"
	}
	_, ok := exact.ParseRatio(word, api.MaxDigits)
	return ok
}

// number returns the number that a word is.
func number(word string) int {
	const most = 9 // digits
	must(len(strings.TrimPrefix(word, "-")) <= most)
	n, err := strconv.Atoi(word)
	must(err == nil && strconv.Itoa(n) == word)
	return n
}
