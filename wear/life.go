package wear

import (
	"strings"

	"bolster/api"
	"bolster/exact"
)

// life is how long a wheel lasts: the chance of j periods is weights[j] divided by
// total, so that the sums of weights are sums of chances without their denominator.
type life struct {
	weights []exact.Int // from 0 on, whose chance is 0
	total   exact.Int
}

// sum returns the sum of the terms of the numbers from first to last.
func sum[T interface{ Add(T) T }](first, last int, term func(int) T) T {
	var total T
	for i := first; i <= last; i++ {
		total = total.Add(term(i))
	}
	return total
}

// lifeOf returns what lives mean, or ErrForm or ErrArg.
func lifeOf(lives []api.Num) (life, api.Errno) {
	chances, e := parsed(lives)
	if e != api.OK {
		return life{}, e
	}
	if len(lives) < 1 || len(lives) > api.MaxAge || !short(lives) {
		return life{}, api.ErrArg
	}
	l := life{make([]exact.Int, 1), exact.Of(1)}
	for _, c := range chances {
		l.total = l.total.Mul(c.Under().Floor(l.total.Common(c.Under())))
	}
	for _, c := range chances {
		if c.Over().Sign() < 0 {
			return life{}, api.ErrArg
		}
		l.weights = append(l.weights, c.Over().Mul(l.total.Floor(c.Under())))
	}
	if l.weights[l.ages()].Sign() == 0 || l.within(l.ages()).Cmp(l.total) != 0 {
		return life{}, api.ErrArg
	}
	return l, api.OK
}

// parsed returns the numbers that Nums denote, or ErrForm.
func parsed(nums []api.Num) ([]exact.Ratio, api.Errno) {
	var l []exact.Ratio
	for _, num := range nums {
		r, ok := exact.ParseRatio(string(num), api.MaxDigits)
		if !ok {
			return nil, api.ErrForm
		}
		l = append(l, r)
	}
	return l, api.OK
}

// short reports whether valid Nums have few enough digits for an argument.
func short(nums []api.Num) bool {
	const most = 6
	for _, num := range nums {
		over, under, _ := strings.Cut(string(num), "/")
		if len(strings.TrimPrefix(over, "-")) > most || len(under) > most {
			return false
		}
	}
	return true
}

// ages returns for how many periods a wheel may last.
func (l life) ages() int { return len(l.weights) - 1 }

// within returns the weight of at most some periods.
func (l life) within(periods int) exact.Int {
	return sum(1, periods, func(j int) exact.Int { return l.weights[j] })
}

// beyond returns the weight of more than some periods.
func (l life) beyond(periods int) exact.Int {
	return sum(periods+1, l.ages(), func(j int) exact.Int { return l.weights[j] })
}

// periods returns the mean number of periods times the total.
func (l life) periods() exact.Int {
	return sum(1, l.ages(), func(j int) exact.Int { return l.weights[j].Mul(exact.Of(j)) })
}

// chance returns the chance that has a weight.
func (l life) chance(weight exact.Int) exact.Ratio { return exact.Quotient(weight, l.total) }

// num returns a Num.
func num(r exact.Ratio) api.Num { return api.Num(r.String()) }
