package exact

// Ratio is a rational number. The zero value is 0. No method changes it.
type Ratio struct {
	// In lowest terms. The denominator is above 0, or 0 in the place of 1.
	over, under Int
}

// Quotient returns x/y. y is not 0.
func Quotient(x, y Int) Ratio {
	if y.Sign() < 0 {
		x, y = x.Neg(), y.Neg()
	}
	common := x.Common(y)
	return Ratio{x.Floor(common), y.Floor(common)}
}

// Over returns the numerator in lowest terms.
func (x Ratio) Over() Int { return x.over }

// Under returns the denominator in lowest terms, which is above 0.
func (x Ratio) Under() Int {
	if x.under.Sign() == 0 {
		return Of(1)
	}
	return x.under
}

// Add returns x + y.
func (x Ratio) Add(y Ratio) Ratio {
	return Quotient(x.over.Mul(y.Under()).Add(y.over.Mul(x.Under())), x.Under().Mul(y.Under()))
}

// Sub returns x - y.
func (x Ratio) Sub(y Ratio) Ratio { return x.Add(Ratio{y.over.Neg(), y.under}) }

// Mul returns x times y.
func (x Ratio) Mul(y Ratio) Ratio {
	return Quotient(x.over.Mul(y.over), x.Under().Mul(y.Under()))
}

// Div returns x/y. y is not 0.
func (x Ratio) Div(y Ratio) Ratio {
	return Quotient(x.over.Mul(y.Under()), x.Under().Mul(y.over))
}

// Cmp returns -1 if x is less than y, 0 if they are equal, and otherwise 1.
func (x Ratio) Cmp(y Ratio) int {
	return x.over.Mul(y.Under()).Cmp(y.over.Mul(x.Under()))
}

// String returns x in lowest terms: the numerator and, unless the denominator is
// 1, a slash and the denominator.
func (x Ratio) String() string {
	under := x.Under().String()
	if under == "1" {
		return x.over.String()
	}
	return x.over.String() + "/" + under
}
