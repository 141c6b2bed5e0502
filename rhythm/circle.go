package rhythm

import (
	"slices"

	"bolster/api"
)

// Even returns the even rhythm.
func Even(p, q int) (string, api.Errno) {
	// The sum might overflow; the difference, with q from 1 on, does not.
	if p < 1 || q < 1 || p > api.MaxBeats-q {
		return "", api.ErrArg
	}
	if divisor(p, q) > 1 {
		return "", api.ErrNone
	}
	n := p + q
	letters := make([]byte, n)
	r := 0
	for i := range letters {
		letters[i] = 'b'
		if r+q < n {
			letters[i] = 'a'
		}
		r = (r + q) % n
	}
	return string(letters), api.OK
}

// divisor returns the greatest common divisor of two numbers from 1 on.
func divisor(a, b int) int {
	for b > 0 {
		a, b = b, a%b
	}
	return a
}

// Gaps returns the distances of points on a circle.
func Gaps(step, count, length int) ([]int, api.Errno) {
	if length < 1 || length > api.MaxCircle || step < 0 || step >= length || count < 1 || count > length {
		return nil, api.ErrArg
	}
	points := make([]int, count, count+1)
	for i := range points {
		points[i] = i * step % length
	}
	slices.Sort(points)
	points = append(points, length) // the point 0, once around
	gaps := make([]int, count)
	for i := range gaps {
		gaps[i] = points[i+1] - points[i]
		if gaps[i] == 0 {
			return nil, api.ErrNone
		}
	}
	return gaps, api.OK
}
