package gear_test

import (
	"math/big"
	"slices"
	"testing"

	"bolster/api"
	"bolster/gear"
)

func turns(g wheels) bool {
	_, e := gear.Speeds(g.n, g.belts)
	return e == api.OK
}

func TestG1Rings(t *testing.T) {
	for g := range gears {
		if turns(g) != turnsWith(ringsOf(g), -1) {
			t.Fatalf("Speeds(%v): %t", g, turns(g))
		}
		if speeds, e := gear.Speeds(g.n, g.belts); e == api.OK {
			checkSpeeds(t, g, partsOf(g), speeds, e)
		}
	}
}

// without returns a gear without some belts.
func without(g wheels, slip []int) wheels {
	var left []api.Belt
	for i, b := range g.belts {
		if !slices.Contains(slip, i) {
			left = append(left, b)
		}
	}
	return wheels{g.n, left}
}

func TestG2Slip(t *testing.T) {
	for g := range gears {
		slip, e := gear.Slip(g.n, g.belts)
		if e != api.OK || !turns(without(g, slip)) || turns(g) != (len(slip) == 0) || !slices.IsSorted(slip) {
			t.Fatalf("Slip(%v) = %v, %d", g, slip, e)
		}
		for i := range slip {
			if rest := slices.Delete(slices.Clone(slip), i, i+1); turns(without(g, rest)) {
				t.Fatalf("Slip(%v) = %v: not %d", g, slip, slip[i])
			}
		}
	}
}

// multiplied multiplies the speed of a wheel by a factor in all belts, if they stay valid.
func multiplied(g wheels, wheel, over, under int) (wheels, bool) {
	var belts []api.Belt
	for _, b := range g.belts {
		switch wheel {
		case b.B:
			b.Over, b.Under = b.Over*over, b.Under*under
		case b.A:
			b.Over, b.Under = b.Over*under, b.Under*over
		}
		if b.Under < 0 {
			b.Over, b.Under = -b.Over, -b.Under
		}
		if max(b.Over, -b.Over, b.Under) > api.MaxTeeth {
			return g, false
		}
		belts = append(belts, b)
	}
	return wheels{g.n, belts}, true
}

// group returns the rows of the basis without the primes that no row has.
func group(t *testing.T, g wheels) [][]api.Num {
	t.Helper()
	primes, basis, e := gear.Group(g.n, g.belts)
	if e != api.OK {
		t.Fatalf("Group(%v): %d", g, e)
	}
	l := make([][]api.Num, len(basis))
	for c, p := range primes {
		if slices.ContainsFunc(basis, func(row []api.Num) bool { return row[c] != "0" }) {
			for i, row := range basis {
				l[i] = append(l[i], api.Num(big.NewInt(int64(p)).String()), row[c])
			}
		}
	}
	return l
}

// sameFaults compares Block, Slip and the group of two gears.
func sameFaults(t *testing.T, g, h wheels) {
	t.Helper()
	block, e := gear.Block(g.n, g.belts)
	slip, _ := gear.Slip(g.n, g.belts)
	otherBlock, f := gear.Block(h.n, h.belts)
	otherSlip, _ := gear.Slip(h.n, h.belts)
	if e != f || !slices.Equal(block, otherBlock) || !slices.Equal(slip, otherSlip) || !equalRows(group(t, g), group(t, h)) {
		t.Fatalf("%v: %v, %v; %v: %v, %v", g, block, slip, h, otherBlock, otherSlip)
	}
}

func TestG3Units(t *testing.T) {
	compared := 0
	for g := range gears {
		for wheel := range g.n {
			for _, f := range [][2]int{{2, 1}, {-3, 7}, {1, 11}} {
				if h, ok := multiplied(g, wheel, f[0], f[1]); ok {
					compared++
					sameFaults(t, g, h)
				}
			}
		}
	}
	if compared < 1000 {
		t.Errorf("%d gears were compared", compared)
	}
}

func TestG4Turned(t *testing.T) {
	for g := range gears {
		h := wheels{g.n, slices.Clone(g.belts)}
		for i, b := range g.belts {
			if i%3 == 1 && len(g.belts) > 2 {
				continue
			}
			h.belts[i] = api.Belt{A: b.B, B: b.A, Over: b.Under, Under: b.Over}
			if b.Over < 0 {
				h.belts[i] = api.Belt{A: b.B, B: b.A, Over: -b.Under, Under: -b.Over}
			}
		}
		sameFaults(t, g, h)
		speeds, e := gear.Speeds(g.n, g.belts)
		twist, f := gear.Twist(g.n, g.belts)
		ratio, _ := gear.Ratio(g.n, g.belts, 0, g.n-1)
		turnedSpeeds, turnedE := gear.Speeds(h.n, h.belts)
		turnedTwist, turnedF := gear.Twist(h.n, h.belts)
		turnedRatio, _ := gear.Ratio(h.n, h.belts, 0, h.n-1)
		if e != turnedE || f != turnedF || ratio != turnedRatio || !slices.Equal(speeds, turnedSpeeds) || !slices.Equal(twist, turnedTwist) {
			t.Fatalf("%v: %q, %v; %v: %q, %v", g, speeds, twist, h, turnedSpeeds, turnedTwist)
		}
	}
}

func TestG5Harary(t *testing.T) {
	seen := map[bool]int{}
	for g := range gears {
		h := wheels{g.n, slices.Clone(g.belts)}
		for i, b := range g.belts {
			h.belts[i].Under = max(b.Over, -b.Over)
		}
		_, e := gear.Twist(h.n, h.belts)
		seen[e == api.OK]++
		if turns(h) != (e == api.OK) {
			t.Fatalf("Twist(%v): %d", h, e)
		}
	}
	if seen[true] < 100 || seen[false] < 100 {
		t.Errorf("seen: %v", seen)
	}
}

func TestG6Group(t *testing.T) {
	for g := range gears {
		primes, basis, e := gear.Group(g.n, g.belts)
		rings := ringsOf(g)
		above := !slices.ContainsFunc(rings, func(r ring) bool { return r.ratio.Sign() < 0 })
		if e != api.OK || above && turns(g) != (len(basis) == 0) {
			t.Fatalf("Group(%v) = %v, %q, %d", g, primes, basis, e)
		}
		for _, r := range rings {
			if !inGroup(t, exponentsOf(r.ratio, primes), basis) {
				t.Fatalf("Group(%v) = %v, %q: not the ratio %s of %v", g, primes, basis, r.ratio, r.belts)
			}
		}
	}
}

// inGroup subtracts the rows of a basis until nothing is left.
func inGroup(t *testing.T, element []*big.Int, basis [][]api.Num) bool {
	t.Helper()
	for _, row := range basis {
		var r []*big.Int
		for _, n := range row {
			r = append(r, rat(t, n).Num())
		}
		c := slices.IndexFunc(r, func(v *big.Int) bool { return v.Sign() != 0 })
		q := new(big.Int).Quo(element[c], r[c])
		element = combined(element, r, big.NewInt(1), q.Neg(q))
	}
	return !slices.ContainsFunc(element, func(v *big.Int) bool { return v.Sign() != 0 })
}
