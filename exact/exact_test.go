package exact_test

import (
	"math"
	"math/big"
	"math/rand"
	"testing"

	"bolster/exact"
)

// from makes an integer by the package's own sums and products.
func from(v *big.Int) exact.Int {
	x, base := exact.Of(0), exact.Of(1<<32)
	for _, b := range new(big.Int).Abs(v).Bytes() {
		x = x.Mul(exact.Of(256)).Add(exact.Of(int(b)))
	}
	if v.Sign() < 0 {
		x = exact.Of(0).Sub(x)
	}
	return x.Mul(base).Floor(base)
}

// numbers are integers of many sizes, those beside powers of 2 among them.
func numbers() []*big.Int {
	l := []*big.Int{big.NewInt(0)}
	add := func(v *big.Int) { l = append(l, v, new(big.Int).Neg(v)) }
	for _, bits := range []uint{0, 1, 31, 32, 63, 64, 65, 127, 128, 191, 192, 256} {
		power := new(big.Int).Lsh(big.NewInt(1), bits)
		for _, beside := range []int64{-1, 0, 1} {
			add(new(big.Int).Add(power, big.NewInt(beside)))
		}
	}
	for _, v := range []int64{3, 10, 1e9, 1e18, 6700417} {
		add(big.NewInt(v))
	}
	random := rand.New(rand.NewSource(1))
	for _, bits := range []uint{40, 64, 100, 128, 150, 200, 300, 500} {
		for range 3 {
			add(new(big.Int).Rand(random, new(big.Int).Lsh(big.NewInt(1), bits)))
		}
	}
	// Words of ones and of zeros, for which a guess in a division is too great.
	for _, text := range []string{"ffffffffffffffff0000000000000000ffffffffffffffff", "8000000000000000ffffffffffffffff",
		"80000000000000000000000000000000ffffffffffffffff", "7fffffffffffffff80000000000000000000000000000000", "80000000000000000000000000000001",
		"8000000000000000fffffffffffffffeffffffffffffffff0000000000000000"} {
		v, _ := new(big.Int).SetString(text, 16)
		add(v)
	}
	return l
}

func same(t *testing.T, call string, x, y *big.Int, got exact.Int, want *big.Int) {
	t.Helper()
	if got.String() != want.String() || got.Sign() != want.Sign() {
		t.Fatalf("%s(%s, %s) = %s, want %s", call, x, y, got, want)
	}
}

// floor returns the quotient of two integers, rounded down.
func floor(x, y *big.Int) *big.Int {
	q, r := new(big.Int).QuoRem(x, y, new(big.Int))
	if r.Sign() != 0 && r.Sign() != y.Sign() {
		q.Sub(q, big.NewInt(1))
	}
	return q
}

func TestPairs(t *testing.T) {
	for _, x := range numbers() {
		a := from(x)
		same(t, "Neg", x, x, a.Neg(), new(big.Int).Neg(x))
		same(t, "Abs", x, x, a.Abs(), new(big.Int).Abs(x))
		for _, y := range numbers() {
			b := from(y)
			same(t, "Add", x, y, a.Add(b), new(big.Int).Add(x, y))
			same(t, "Sub", x, y, a.Sub(b), new(big.Int).Sub(x, y))
			same(t, "Mul", x, y, a.Mul(b), new(big.Int).Mul(x, y))
			if y.Sign() != 0 {
				same(t, "Floor", x, y, a.Floor(b), floor(x, y))
			}
			if a.Cmp(b) != x.Cmp(y) {
				t.Fatalf("Cmp(%s, %s) = %d", x, y, a.Cmp(b))
			}
		}
		same(t, "afterwards", x, x, a, x)
	}
}

// Quotients and remainders near the greatest word, from products of known numbers.
func TestLongQuotients(t *testing.T) {
	l := numbers()
	for _, x := range l {
		for _, y := range l {
			p := new(big.Int).Mul(x, y)
			for _, off := range []int64{-1, 0, 1} {
				v := new(big.Int).Add(p, big.NewInt(off))
				if y.Sign() != 0 {
					same(t, "Floor", v, y, from(v).Floor(from(y)), floor(v, y))
				}
			}
		}
	}
}

func TestOf(t *testing.T) {
	for _, v := range []int{0, 1, -1, 7, math.MaxInt, math.MinInt, math.MaxInt - 1, math.MinInt + 1} {
		same(t, "Of", big.NewInt(int64(v)), nil, exact.Of(v), big.NewInt(int64(v)))
	}
	var zero exact.Int
	if zero.String() != "0" || zero.Sign() != 0 || zero.Cmp(exact.Of(0)) != 0 || zero.Neg().Sign() != 0 {
		t.Errorf("the zero value is %s", zero)
	}
}

func TestString(t *testing.T) {
	for _, text := range []string{"0", "5", "-5", "9999999999999999999", "10000000000000000000", "-10000000000000000000",
		"10000000000000000001", "100000000000000000000000000000000000000", "-340282366920938463463374607431768211456"} {
		v, _ := new(big.Int).SetString(text, 10)
		if got := from(v).String(); got != text {
			t.Errorf("%s is written %s", text, got)
		}
	}
}
