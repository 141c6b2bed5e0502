package wear

import (
	"bolster/api"
	"bolster/exact"
)

// Rates returns for each age from 1 on the cost of a period, if each wheel is
// replaced when it has failed or reached that age.
func Rates(lives []api.Num, planned, failed api.Num) ([]api.Num, api.Errno) {
	rates, e := ratesOf(lives, planned, failed)
	var l []api.Num
	for _, r := range rates {
		l = append(l, num(r))
	}
	return l, e
}

// Replace returns the least age with the least rate, and that rate.
func Replace(lives []api.Num, planned, failed api.Num) (int, api.Num, api.Errno) {
	rates, e := ratesOf(lives, planned, failed)
	if e != api.OK {
		return 0, "", e
	}
	best := 0
	for i, r := range rates {
		if r.Cmp(rates[best]) < 0 {
			best = i
		}
	}
	return best + 1, num(rates[best]), api.OK
}

// ratesOf returns the rates of the ages from 1 on.
func ratesOf(lives []api.Num, planned, failed api.Num) ([]exact.Ratio, api.Errno) {
	nums := []api.Num{planned, failed}
	costs, e := parsed(nums)
	if e != api.OK {
		return nil, e
	}
	l, e := lifeOf(lives)
	if e != api.OK {
		return nil, e
	}
	if !short(nums) || costs[0].Over().Sign() <= 0 || costs[1].Over().Sign() <= 0 {
		return nil, api.ErrArg
	}
	var rates []exact.Ratio
	for a := 1; a <= l.ages(); a++ {
		cost := costs[1].Mul(l.chance(l.within(a))).Add(costs[0].Mul(l.chance(l.beyond(a))))
		periods := l.chance(sum(0, a-1, l.beyond))
		rates = append(rates, cost.Div(periods))
	}
	return rates, api.OK
}
