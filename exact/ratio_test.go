package exact_test

import (
	"math/big"
	"math/rand"
	"strings"
	"testing"

	"bolster/exact"
)

// divisor compares Common of two numbers, of all signs and in both orders.
func divisor(t *testing.T, x, y *big.Int) {
	t.Helper()
	want := new(big.Int).GCD(nil, nil, new(big.Int).Abs(x), new(big.Int).Abs(y))
	a, b := from(x), from(y)
	for _, got := range []exact.Int{a.Common(b), b.Common(a), a.Neg().Common(b), a.Common(b.Neg()), b.Neg().Common(a.Neg())} {
		same(t, "Common", x, y, got, want)
	}
}

func TestCommon(t *testing.T) {
	for _, x := range numbers() {
		for _, y := range numbers() {
			divisor(t, x, y)
		}
	}
}

// Long numbers with a common divisor; those of equal and of very different length.
func TestCommonLong(t *testing.T) {
	random := rand.New(rand.NewSource(3))
	number := func(bits int) *big.Int {
		return new(big.Int).Rand(random, new(big.Int).Lsh(big.NewInt(1), uint(bits)))
	}
	for i := range 300 {
		x, y, d := number(1+random.Intn(900)), number(1+random.Intn(900)), number(1+random.Intn(300))
		if i%3 == 0 {
			y = number(x.BitLen() + 1)
		}
		divisor(t, x.Mul(x, d), y.Mul(y, d))
	}
	divisor(t, number(13000), number(13000))
}

// Numbers whose quotients are all 1, but for a few great ones.
func TestCommonQuotients(t *testing.T) {
	for _, great := range []uint{0, 1, 30, 61, 62, 63, 64, 65, 100, 130} {
		x, y := big.NewInt(12), big.NewInt(0)
		for i := range 600 {
			quotient := big.NewInt(1)
			if i%150 == 149 {
				quotient.Lsh(quotient, great)
			}
			x, y = quotient.Mul(quotient, x).Add(quotient, y), x
			if i%7 == 0 {
				divisor(t, x, y)
			}
		}
	}
}

// ratios are rational numbers, and the same for math/big.
func ratios() ([]exact.Ratio, []*big.Rat) {
	var l []exact.Ratio
	var wants []*big.Rat
	random := rand.New(rand.NewSource(4))
	all := numbers()
	for len(l) < 80 {
		x, y := all[random.Intn(len(all))], all[random.Intn(len(all))]
		if y.Sign() == 0 {
			continue
		}
		l = append(l, exact.Quotient(from(x), from(y)))
		wants = append(wants, new(big.Rat).SetFrac(x, y))
	}
	return append(l, exact.Ratio{}), append(wants, new(big.Rat))
}

func sameRatio(t *testing.T, call string, got exact.Ratio, want *big.Rat) {
	t.Helper()
	if got.String() != want.RatString() || got.Over().String() != want.Num().String() || got.Under().String() != want.Denom().String() {
		t.Fatalf("%s = %s, want %s", call, got, want.RatString())
	}
}

func TestRatios(t *testing.T) {
	l, wants := ratios()
	for i, x := range l {
		sameRatio(t, "Quotient", x, wants[i])
		for j, y := range l {
			sameRatio(t, "Add", x.Add(y), new(big.Rat).Add(wants[i], wants[j]))
			sameRatio(t, "Sub", x.Sub(y), new(big.Rat).Sub(wants[i], wants[j]))
			sameRatio(t, "Mul", x.Mul(y), new(big.Rat).Mul(wants[i], wants[j]))
			if wants[j].Sign() != 0 {
				sameRatio(t, "Div", x.Div(y), new(big.Rat).Quo(wants[i], wants[j]))
			}
			if x.Cmp(y) != wants[i].Cmp(wants[j]) {
				t.Fatalf("Cmp(%s, %s) = %d", x, y, x.Cmp(y))
			}
		}
		sameRatio(t, "afterwards", x, wants[i])
	}
}

func TestParse(t *testing.T) {
	for _, v := range numbers() {
		text := v.String()
		x, ok := exact.Parse(text, 160)
		if !ok {
			t.Fatalf("%s is refused", text)
		}
		same(t, "Parse", v, nil, x, v)
		digits := len(strings.TrimPrefix(text, "-"))
		if _, ok := exact.Parse(text, digits); !ok {
			t.Errorf("%s is refused for %d digits", text, digits)
		}
		if x, ok := exact.Parse(text, digits-1); ok || x.Sign() != 0 {
			t.Errorf("%s is taken for %d digits: %s", text, digits-1, x)
		}
	}
	for _, text := range []string{"", "-", "-0", "00", "01", "-01", "+1", "--1", "1-", "1 ", " 1", "1.5", "1e3", "0x1", "1_0", "a", "12345678901234567890x", "x2345678901234567890", "1/2", "１", ":", "1:", "1/"} {
		if x, ok := exact.Parse(text, 30); ok || x.Sign() != 0 {
			t.Errorf("%q is taken: %s", text, x)
		}
	}
}

func TestParseRatio(t *testing.T) {
	l, wants := ratios()
	for i, want := range wants {
		x, ok := exact.ParseRatio(want.RatString(), 160)
		if !ok {
			t.Fatalf("%s is refused", want.RatString())
		}
		sameRatio(t, "ParseRatio", x, want)
		if x.Cmp(l[i]) != 0 {
			t.Errorf("%s is not %s", x, l[i])
		}
	}
	for _, text := range []string{"", "/", "1/", "/2", "1/1", "-1/1", "0/1", "0/5", "-0/5", "5/0", "2/4", "-3/6", "6/3", "1/-2", "-1/-2", "1/02", "01/2", "1/2/3", "1//2", "1/+2", "1 /2", "1/2 ", "-0", "-/2",
		"18446744073709551616/36893488147419103232", "123456/7", "1/123457", "123456"} {
		if x, ok := exact.ParseRatio(text, 5); ok || x.Over().Sign() != 0 {
			t.Errorf("%q is taken: %s", text, x)
		}
	}
	for _, text := range []string{"12345/7", "-12345/7", "1/12346", "-99999", "0", "1/2", "99998/99999"} {
		if x, ok := exact.ParseRatio(text, 5); !ok || x.String() != text {
			t.Errorf("%q is refused, or %s", text, x)
		}
	}
	if x, ok := exact.ParseRatio("18446744073709551616/36893488147419103232", 50); ok {
		t.Errorf("%s is taken", x)
	}
}
