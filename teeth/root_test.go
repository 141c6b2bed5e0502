package teeth_test

import (
	"math/big"
	"slices"
	"testing"

	"bolster/api"
	"bolster/teeth"
)

// number returns the integer of a Num.
func number(t *testing.T, n api.Num) *big.Int {
	t.Helper()
	v, ok := new(big.Int).SetString(string(n), 10)
	if !ok || v.String() != string(n) {
		t.Fatalf("%q is no whole number", n)
	}
	return v
}

func TestRoot(t *testing.T) {
	count := 0
	for d := range roots {
		count++
		want := rootTermsOf(d)
		period := periodOf(want[1:])
		if len(want) < 4*len(period) {
			t.Fatalf("%d: %d digits are too few", d, 300)
		}
		first, l, e := teeth.Root(d)
		if e != api.OK || first != floorRootOf(d) || first != want[0] || !slices.Equal(l, period) {
			t.Fatalf("Root(%d) = %d, %v, %d; want %d, %v", d, first, l, e, want[0], period)
		}
	}
	if count != 969 {
		t.Errorf("there are %d numbers", count)
	}
	for r := 2; r*r <= api.MaxRoot; r++ {
		if first, l, e := teeth.Root(r * r); first != 0 || len(l) > 0 || e != api.ErrNone {
			t.Errorf("Root(%d) = %d, %v, %d", r*r, first, l, e)
		}
	}
}

func TestPell(t *testing.T) {
	for d := range roots {
		x, y, e := teeth.Pell(d, 1)
		if e != api.OK {
			t.Fatalf("Pell(%d, 1): %d", d, e)
		}
		holdPell(t, d, 1, number(t, x), number(t, y))
		u, v, e := teeth.Pell(d, -1)
		if e == api.OK {
			holdPell(t, d, -1, number(t, u), number(t, v))
		} else if e != api.ErrNone || u != "" || v != "" || half(d, number(t, x)) {
			t.Fatalf("Pell(%d, -1) = %s, %s, %d", d, u, v, e)
		}
	}
}

// holdPell holds a solution against the definition.
func holdPell(t *testing.T, d, sign int, x, y *big.Int) {
	t.Helper()
	if x.Sign() <= 0 || y.Sign() <= 0 || !solves(d, sign, x, y) || !isLeast(d, sign, x) {
		t.Fatalf("Pell(%d, %d) = %s, %s", d, sign, x, y)
	}
}

// half reports whether there is a solution for -1, where x is the least one for 1: it
// would be u with x = 2·u·u + 1.
func half(d int, x *big.Int) bool {
	square := new(big.Int).Sub(x, big.NewInt(1))
	if square.Bit(0) == 1 || !isSquare(square.Rsh(square, 1)) {
		return false
	}
	_, ok := partner(d, -1, square.Sqrt(square))
	return ok
}

// All small numbers are tried.
func TestPellSmall(t *testing.T) {
	for d := range roots {
		for _, sign := range []int{1, -1} {
			for v := 1; v <= 500; v++ {
				square := d*v*v + sign
				if !isSquare(big.NewInt(int64(square))) {
					continue
				}
				if x, y, e := teeth.Pell(d, sign); e != api.OK || number(t, x).Cmp(new(big.Int).Sqrt(big.NewInt(int64(square)))) != 0 || number(t, y).Cmp(big.NewInt(int64(v))) != 0 {
					t.Fatalf("Pell(%d, %d) = %s, %s, %d; want y = %d", d, sign, x, y, e, v)
				}
				break
			}
		}
	}
}

// Solutions that are known from of old.
func TestPellGreat(t *testing.T) {
	for _, c := range []struct {
		d, sign int
		x, y    api.Num
	}{
		{61, 1, "1766319049", "226153980"}, {61, -1, "29718", "3805"}, {109, 1, "158070671986249", "15140424455100"},
		{109, -1, "8890182", "851525"}, {661, 1, "16421658242965910275055840472270471049", "638728478116949861246791167518480580"},
		{991, 1, "379516400906811930638014896080", "12055735790331359447442538767"}, {3, 1, "2", "1"}, {5, -1, "2", "1"}, {5, 1, "9", "4"}, {999, 1, "102688615", "3248924"},
	} {
		if x, y, e := teeth.Pell(c.d, c.sign); x != c.x || y != c.y || e != api.OK {
			t.Errorf("Pell(%d, %d) = %s, %s, %d", c.d, c.sign, x, y, e)
		}
	}
}

func TestBeats(t *testing.T) {
	const n = api.MaxCircle
	for d := range roots {
		a, b := beatsOf(d, n)
		s, e := teeth.Beats(d, n)
		if e != api.OK || len(s) != n {
			t.Fatalf("Beats(%d, %d) = %s, %d", d, n, s, e)
		}
		for i := 1; i <= n; i++ {
			if (s[i-1] == 'a') != a[i] || (s[i-1] == 'b') != b[i] {
				t.Fatalf("Beats(%d, %d): %c at %d", d, n, s[i-1], i)
			}
		}
		for _, m := range []int{0, 1, 2, 3, 40, 999} {
			if part, e := teeth.Beats(d, m); e != api.OK || part != s[:m] {
				t.Fatalf("Beats(%d, %d) = %s, %d", d, m, part, e)
			}
		}
	}
}
