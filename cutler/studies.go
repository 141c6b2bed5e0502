package cutler

import (
	"bolster/api"
	"bolster/rhythm"
	"bolster/scroll"
	"bolster/teeth"
)

func (*Cutler) rhythm(a arguments) reply {
	word := a.texts[0]
	found, e := rhythm.Runs(word)
	var runs [][]int
	for _, r := range found {
		runs = append(runs, []int{r.From, r.To, r.Period})
	}
	return join(
		numbers("periods").list(rhythm.Periods(word)),
		texts("lyndon").list(rhythm.Lyndon(word)),
		numbers("turn").one(rhythm.Turn(word)),
		numbers("critical").list(rhythm.Critical(word)),
		numbers("run").each(runs, e),
	)
}

func (*Cutler) even(a arguments) reply {
	return texts("even").one(rhythm.Even(a.numbers[0], a.numbers[1]))
}

func (*Cutler) gaps(a arguments) reply {
	return numbers("gaps").list(rhythm.Gaps(a.numbers[0], a.numbers[1], a.numbers[2]))
}

func (*Cutler) scroll(a arguments) reply {
	word := a.numbers
	genus, signs, e := scroll.Least(word)
	return join(
		numbers("genus").one(genus, e),
		numbers("signs").list(signs, e),
		texts("drawn").one(yesOrNo(scroll.Drawn(word))),
		numbers("canon").list(scroll.Canon(word)),
	)
}

func (*Cutler) faces(a arguments) reply {
	length, rest := a.numbers[0], a.numbers[1:]
	if length < 0 || length > len(rest) {
		return done(api.ErrArg)
	}
	return numbers("face").each(scroll.Faces(rest[:length], rest[length:]))
}

func (*Cutler) terms(a arguments) reply {
	return numbers("terms").list(teeth.Terms(a.numbers[0], a.numbers[1]))
}

func (*Cutler) near(a arguments) reply {
	return numbers("near").two(teeth.Near(a.numbers[0], a.numbers[1], a.numbers[2]))
}

func (*Cutler) root(a arguments) reply {
	d := a.numbers[0]
	whole, period, e := teeth.Root(d)
	return join(
		numbers("root").one(whole, e),
		numbers("period").list(period, e),
		nums("pell").two(teeth.Pell(d, 1)),
	)
}

func (*Cutler) train(a arguments) reply {
	return numbers("pair").each(teeth.Train(a.numbers[0], a.numbers[1], a.numbers[3:], a.numbers[2]))
}

func (*Cutler) beats(a arguments) reply {
	return texts("beats").one(teeth.Beats(a.numbers[0], a.numbers[1]))
}

func (*Cutler) markov(a arguments) reply {
	return numbers("markov").list(teeth.Markov(a.numbers[0]))
}
