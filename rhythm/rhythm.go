// Package rhythm is layer 1: the rhythms of wheels as strings, their periods,
// Lyndon words, critical positions, runs and parts, the even rhythms, and
// points on a circle. See shared/doc/01-rhythm.md.
package rhythm

import (
	"strings"

	"bolster/api"
)

// check returns the error of a string that is no rhythm.
func check(s string) api.Errno {
	if len(s) > api.MaxBeats {
		return api.ErrLong
	}
	if s == "" {
		return api.ErrForm
	}
	for i := range len(s) {
		if s[i] < 'a' || s[i] > 'd' {
			return api.ErrForm
		}
	}
	return api.OK
}

// Periods returns the periods of a rhythm.
func Periods(s string) ([]int, api.Errno) {
	if e := check(s); e != api.OK {
		return nil, e
	}
	var periods []int
	for p := 1; p <= len(s); p++ {
		if hasPeriod(s, p) {
			periods = append(periods, p)
		}
	}
	return periods, api.OK
}

// hasPeriod reports whether p, 1 to len(s), is a period of s.
func hasPeriod(s string, p int) bool {
	return s[p:] == s[:len(s)-p]
}

// leastPeriod returns the least period of a rhythm; its length is one at any rate.
func leastPeriod(s string) int {
	p := 1
	for !hasPeriod(s, p) {
		p++
	}
	return p
}

// Lyndon returns the Lyndon words of a rhythm.
func Lyndon(s string) ([]string, api.Errno) {
	if e := check(s); e != api.OK {
		return nil, e
	}
	var words []string
	for s != "" {
		length := firstWord(s)
		words = append(words, strings.Clone(s[:length]))
		s = s[length:]
	}
	return words, api.OK
}

// firstWord returns the length of the first Lyndon word of a rhythm, by Duval's
// algorithm: the letters up to `end` are that word again and again, the last
// time perhaps only its beginning, and `same` is where the letter at `end`
// stands in the time before.
func firstWord(s string) int {
	same, end := 0, 1
	for end < len(s) && s[same] <= s[end] {
		if s[same] < s[end] {
			same = 0 // all letters so far are one longer Lyndon word
		} else {
			same++
		}
		end++
	}
	return end - same
}

// Turn returns where the least rotation begins.
func Turn(s string) (int, api.Errno) {
	if e := check(s); e != api.OK {
		return 0, e
	}
	n, twice, first := len(s), s+s, 0
	for i := 1; i < n; i++ {
		if twice[i:i+n] < twice[first:first+n] {
			first = i
		}
	}
	return first, api.OK
}
