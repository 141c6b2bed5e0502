package exact

import "strings"

// Parse returns the integer that a text denotes, if it is as String writes it and
// has at most a number of digits.
func Parse(text string, digits int) (Int, bool) {
	number, negative := strings.CutPrefix(text, "-")
	if number == "" || len(number) > digits || number[0] == '0' && text != "0" {
		return Int{}, false
	}
	var x Int
	for len(number) > 0 {
		const most = 18 // digits that fit into an int
		part := number[:min(len(number), most)]
		number = number[len(part):]
		value, scale := 0, 1
		for _, digit := range []byte(part) {
			if digit < '0' || digit > '9' {
				return Int{}, false
			}
			value = 10*value + int(digit-'0')
			scale *= 10
		}
		x = x.Mul(Of(scale)).Add(Of(value))
	}
	if negative {
		x = x.Neg()
	}
	return x, true
}

// ParseRatio returns the rational number that a text denotes, if it is as String
// writes it, and its numerator and its denominator have at most a number of digits.
func ParseRatio(text string, digits int) (Ratio, bool) {
	before, after, divided := strings.Cut(text, "/")
	over, ok := Parse(before, digits)
	if !ok || !divided {
		return Ratio{over: over}, ok
	}
	under, ok := Parse(after, digits)
	one := Of(1)
	if !ok || under.Cmp(one) <= 0 || over.Common(under).Cmp(one) != 0 {
		return Ratio{}, false
	}
	return Ratio{over, under}, true
}
