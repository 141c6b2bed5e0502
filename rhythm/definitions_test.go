package rhythm_test

// The definitions of the chapter, followed word by word: what the package's
// results are held against. They are slow, and share no code with it.

import (
	"strings"

	"bolster/api"
)

// rhythms yields all strings of 1 to most of some letters.
func rhythms(letters string, most int) func(yield func(string) bool) {
	return func(yield func(string) bool) {
		row := []string{""}
		for range most {
			var next []string
			for _, s := range row {
				for _, c := range letters {
					t := s + string(c)
					if !yield(t) {
						return
					}
					next = append(next, t)
				}
			}
			row = next
		}
	}
}

// long yields longer rhythms of several kinds, among them the longest ones.
func long(yield func(string) bool) {
	a, b := "a", "ab"
	for len(b) <= api.MaxBeats {
		if !yield(b) {
			return
		}
		a, b = b, b+a
	}
	seed := uint32(1)
	for _, n := range []int{13, 40, 77, api.MaxBeats - 1, api.MaxBeats} {
		var letters strings.Builder
		for range n {
			seed = seed*1664525 + 1013904223
			letters.WriteByte('a' + byte(seed>>30))
		}
		some := letters.String()
		twoLetters := strings.NewReplacer("c", "a", "d", "b").Replace(some)
		for _, s := range []string{some, twoLetters, strings.Repeat("d", n), strings.Repeat("abaab", n)[:n],
			strings.Repeat("cadab", n)[:n], strings.Repeat("a", n-1) + "b", "b" + strings.Repeat("a", n-1)} {
			if !yield(s) {
				return
			}
		}
	}
}

func isPeriod(s string, p int) bool {
	for i := 0; i <= len(s)-p-1; i++ {
		if s[i] != s[i+p] {
			return false
		}
	}
	return true
}

func periodsOf(s string) []int {
	var l []int
	for p := 1; p <= len(s); p++ {
		if isPeriod(s, p) {
			l = append(l, p)
		}
	}
	return l
}

func isLyndon(s string) bool {
	for i := 1; i < len(s); i++ {
		if s >= s[i:] {
			return false
		}
	}
	return s != ""
}

func rotation(s string, i int) string { return s[i:] + s[:i] }

func turnOf(s string) int {
	first := 0
	for i := range len(s) {
		if rotation(s, i) < rotation(s, first) {
			first = i
		}
	}
	return first
}

func localOf(s string) []int {
	var l []int
	n := len(s)
	for i := 1; i < n; i++ {
		for q := 1; ; q++ {
			ok := true
			for j := max(0, i-q); j < min(i, n-q); j++ {
				ok = ok && s[j] == s[j+q]
			}
			if ok {
				l = append(l, q)
				break
			}
		}
	}
	return l
}

func criticalOf(s string) []int {
	var l []int
	for i, q := range localOf(s) {
		if q == periodsOf(s)[0] {
			l = append(l, i+1)
		}
	}
	return l
}

func runsOf(s string) []api.Run {
	var l []api.Run
	n := len(s)
	for from := 0; from < n; from++ {
		for to := from + 1; to <= n; to++ {
			p := 1
			for !isPeriod(s[from:to], p) {
				p++
			}
			if to-from < 2*p || from > 0 && isPeriod(s[from-1:to], p) || to < n && isPeriod(s[from:to+1], p) {
				continue
			}
			l = append(l, api.Run{From: from, To: to, Period: p})
		}
	}
	return l
}

func squaresOf(s string) int {
	m := map[string]bool{}
	for i := range len(s) {
		for j := i + 2; j <= len(s); j += 2 {
			h := (i + j) / 2
			if s[i:h] == s[h:j] {
				m[s[i:j]] = true
			}
		}
	}
	return len(m)
}

func partsOf(s string) []int {
	m := map[string]bool{}
	for i := range len(s) {
		for j := i + 1; j <= len(s); j++ {
			m[s[i:j]] = true
		}
	}
	l := make([]int, len(s))
	for part := range m {
		l[len(part)-1]++
	}
	return l
}

func isBalanced(s string) bool {
	for i := range len(s) {
		if s[i] != 'a' && s[i] != 'b' {
			return false
		}
	}
	sum := make([]int, len(s)+1)
	for i := range len(s) {
		sum[i+1] = sum[i] + int(s[i]-'a')
	}
	for length := 1; length <= len(s); length++ {
		for i := 0; i+length <= len(s); i++ {
			for j := 0; j < i; j++ {
				d := sum[i+length] - sum[i] - sum[j+length] + sum[j]
				if d < -1 || d > 1 {
					return false
				}
			}
		}
	}
	return true
}

func gcd(a, b int) int {
	d := min(a, b)
	for a%d != 0 || b%d != 0 {
		d--
	}
	return d
}
