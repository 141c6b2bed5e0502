package rhythm

import (
	"iter"
	"strings"

	"bolster/api"
)

// parts yields the parts of a rhythm of some length, from the left.
func parts(s string, length int) iter.Seq[string] {
	return func(yield func(string) bool) {
		for from := 0; from+length <= len(s); from++ {
			if !yield(s[from : from+length]) {
				return
			}
		}
	}
}

// Squares returns how many different squares a rhythm has.
func Squares(s string) (int, api.Errno) {
	if e := check(s); e != api.OK {
		return 0, e
	}
	squares := map[string]bool{}
	for half := 1; 2*half <= len(s); half++ {
		for part := range parts(s, 2*half) {
			if part[:half] == part[half:] {
				squares[part] = true
			}
		}
	}
	return len(squares), api.OK
}

// Parts returns how many different parts of each length a rhythm has.
func Parts(s string) ([]int, api.Errno) {
	if e := check(s); e != api.OK {
		return nil, e
	}
	var counts []int
	for length := 1; length <= len(s); length++ {
		different := map[string]bool{}
		for part := range parts(s, length) {
			different[part] = true
		}
		counts = append(counts, len(different))
	}
	return counts, api.OK
}

// Balanced reports whether a rhythm is balanced.
func Balanced(s string) (bool, api.Errno) {
	if e := check(s); e != api.OK {
		return false, e
	}
	if strings.ContainsAny(s, "cd") {
		return false, api.OK
	}
	for length := 1; length <= len(s); length++ {
		if !evenParts(s, length) {
			return false, api.OK
		}
	}
	return true, api.OK
}

// evenParts reports whether the numbers of letters b of the parts of some
// length differ by at most 1.
func evenParts(s string, length int) bool {
	least, most := length, 0
	for part := range parts(s, length) {
		n := strings.Count(part, "b")
		least, most = min(least, n), max(most, n)
		if most-least > 1 {
			return false
		}
	}
	return true
}
