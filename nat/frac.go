package nat

import (
	"strings"

	"guilloche/api"
)

// Frac is a non-negative fraction in lowest terms. Its zero value is the fraction 0.
type Frac struct {
	num digits
	den digits // 0 stands for 1, so that the zero value is a fraction
}

// terms returns the numerator and the denominator.
func (f Frac) terms() (digits, digits) {
	if f.den.isZero() {
		return f.num, digitsOf(1)
	}
	return f.num, f.den
}

// lowest returns num divided by den, which is not 0, in lowest terms.
func lowest(num, den digits) Frac {
	divisor := gcd(num, den)
	return Frac{quotient(num, divisor), quotient(den, divisor)}
}

// fittingFrac returns num divided by den, which is not 0, or ErrRange if it does not fit in lowest terms.
func fittingFrac(num, den digits) (Frac, api.Errno) {
	f := lowest(num, den)
	if f.num.bitLen() > api.MaxBits || f.den.bitLen() > api.MaxBits {
		return Frac{}, api.ErrRange
	}
	return f, api.OK
}

// NewFrac returns the fraction num divided by den.
func NewFrac(num, den Nat) (Frac, api.Errno) {
	if den.digits.isZero() {
		return Frac{}, api.ErrZero
	}
	return lowest(num.digits, den.digits), api.OK
}

// ParseFrac returns the fraction whose String is s.
func ParseFrac(s string) (Frac, api.Errno) {
	above, below, divided := strings.Cut(s, "/")
	if !isNumeral(above) {
		return Frac{}, api.ErrSyntax
	}
	if !divided {
		below = "1"
	} else if !isNumeral(below) || below == "0" || below == "1" {
		return Frac{}, api.ErrSyntax
	}
	num, err := readNumeral(above)
	if err != api.OK {
		return Frac{}, err
	}
	den, err := readNumeral(below)
	if err != api.OK {
		return Frac{}, err
	}
	if !gcd(num.digits, den.digits).isOne() {
		return Frac{}, api.ErrSyntax
	}
	return Frac{num.digits, den.digits}, api.OK
}

// String returns the numeral of the numerator, and behind a slash that of the denominator if it is not 1.
func (f Frac) String() string {
	num, den := f.terms()
	if den.isOne() {
		return Nat{num}.String()
	}
	return Nat{num}.String() + "/" + Nat{den}.String()
}

// Num returns the numerator.
func (f Frac) Num() Nat {
	num, _ := f.terms()
	return Nat{num.clone()}
}

// Den returns the denominator.
func (f Frac) Den() Nat {
	_, den := f.terms()
	return Nat{den.clone()}
}

// crossed returns the numerators of f and g over the product of their denominators, and that product.
func crossed(f, g Frac) (digits, digits, digits) {
	a, b := f.terms()
	c, d := g.terms()
	return product(a, d), product(c, b), product(b, d)
}

// Cmp returns -1, 0 or 1 if f is less than, equal to, or greater than g.
func (f Frac) Cmp(g Frac) int {
	left, right, _ := crossed(f, g)
	return compare(left, right)
}

// Add returns the sum.
func (f Frac) Add(g Frac) (Frac, api.Errno) {
	left, right, den := crossed(f, g)
	return fittingFrac(sum(left, right), den)
}

// Sub returns f minus g.
func (f Frac) Sub(g Frac) (Frac, api.Errno) {
	left, right, den := crossed(f, g)
	if compare(left, right) < 0 {
		return Frac{}, api.ErrNegative
	}
	return fittingFrac(difference(left, right), den)
}

// Mul returns the product.
func (f Frac) Mul(g Frac) (Frac, api.Errno) {
	a, b := f.terms()
	c, d := g.terms()
	return fittingFrac(product(a, c), product(b, d))
}

// Div returns f divided by g.
func (f Frac) Div(g Frac) (Frac, api.Errno) {
	if g.num.isZero() {
		return Frac{}, api.ErrZero
	}
	left, right, _ := crossed(f, g)
	return fittingFrac(left, right)
}

// Floor returns the greatest natural number that is at most f.
func (f Frac) Floor() Nat {
	num, den := f.terms()
	return Nat{quotient(num, den)}
}
