// Package nat is layer 1: natural numbers of arbitrary size and non-negative fractions, both exact. See shared/doc/01-nat.md.
package nat

import (
	"math/bits"
	"strconv"
	"strings"

	"guilloche/api"
)

// Nat is a natural number. Its zero value is the number 0.
type Nat struct {
	digits digits
}

// A numeral is read and written in groups of decimal digits that fit into one digit.
const (
	groupLen   = 9
	groupLimit = 1_000_000_000
)

// fitting returns the number as a Nat, or ErrRange if it does not fit.
func fitting(d digits) (Nat, api.Errno) {
	if d.bitLen() > api.MaxBits {
		return Nat{}, api.ErrRange
	}
	return Nat{d}, api.OK
}

// New returns the number n.
func New(n int) (Nat, api.Errno) {
	if n < 0 {
		return Nat{}, api.ErrArg
	}
	return Nat{digitsOf(uint64(n))}, api.OK
}

// Parse returns the number whose numeral is s.
func Parse(s string) (Nat, api.Errno) {
	if !isNumeral(s) {
		return Nat{}, api.ErrSyntax
	}
	return readNumeral(s)
}

func isNumeral(s string) bool {
	if s == "" || s[0] == '0' && len(s) > 1 {
		return false
	}
	for i := range len(s) {
		if s[i] < '0' || s[i] > '9' {
			return false
		}
	}
	return true
}

func readNumeral(s string) (Nat, api.Errno) {
	// 10 is greater than 2^3: what has so many digits does not fit, and need not be read.
	if len(s) > api.MaxBits/3+2 {
		return Nat{}, api.ErrRange
	}
	d, weight := digits(nil), digitsOf(groupLimit)
	for len(s) > 0 {
		n := (len(s)-1)%groupLen + 1
		group := uint64(0)
		for i := range n {
			group = group*10 + uint64(s[i]-'0')
		}
		d = sum(product(d, weight), digitsOf(group))
		s = s[n:]
	}
	return fitting(d)
}

// String returns the numeral.
func (a Nat) String() string {
	if a.digits.isZero() {
		return "0"
	}
	var groups []string
	for rest := a.digits; !rest.isZero(); {
		whole, group := divideByDigit(rest, groupLimit)
		groups = append(groups, strconv.Itoa(int(group)))
		rest = whole
	}
	var out strings.Builder
	for i := range len(groups) {
		group := groups[len(groups)-1-i]
		if i > 0 {
			out.WriteString(strings.Repeat("0", groupLen-len(group)))
		}
		out.WriteString(group)
	}
	return out.String()
}

// Int returns the number as an int, and whether it is one.
func (a Nat) Int() (int, bool) {
	if a.digits.bitLen() >= bits.UintSize {
		return 0, false
	}
	return int(a.digits.at(1)<<digitBits | a.digits.at(0)), true
}

// BitLen returns the number of binary digits.
func (a Nat) BitLen() int { return a.digits.bitLen() }

// Bit returns the binary digit with the weight 2^i.
func (a Nat) Bit(i int) int {
	if i < 0 {
		return 0
	}
	return a.digits.bit(i)
}

// Cmp returns -1, 0 or 1 if a is less than, equal to, or greater than b.
func (a Nat) Cmp(b Nat) int { return compare(a.digits, b.digits) }

// Add returns the sum.
func (a Nat) Add(b Nat) (Nat, api.Errno) { return fitting(sum(a.digits, b.digits)) }

// Sub returns a minus b.
func (a Nat) Sub(b Nat) (Nat, api.Errno) {
	if compare(a.digits, b.digits) < 0 {
		return Nat{}, api.ErrNegative
	}
	return Nat{difference(a.digits, b.digits)}, api.OK
}

// Mul returns the product.
func (a Nat) Mul(b Nat) (Nat, api.Errno) { return fitting(product(a.digits, b.digits)) }

// DivMod returns the quotient, rounded down, and the remainder.
func (a Nat) DivMod(b Nat) (Nat, Nat, api.Errno) {
	if b.digits.isZero() {
		return Nat{}, Nat{}, api.ErrZero
	}
	whole, rest := divide(a.digits, b.digits)
	return Nat{whole}, Nat{rest}, api.OK
}

// Lsh returns a times 2^n.
func (a Nat) Lsh(n int) (Nat, api.Errno) {
	if n < 0 {
		return Nat{}, api.ErrArg
	}
	if a.digits.isZero() {
		return Nat{}, api.OK
	}
	if n > api.MaxBits-a.digits.bitLen() {
		return Nat{}, api.ErrRange
	}
	return Nat{shiftLeft(a.digits, n)}, api.OK
}

// Rsh returns a divided by 2^n, rounded down.
func (a Nat) Rsh(n int) (Nat, api.Errno) {
	if n < 0 {
		return Nat{}, api.ErrArg
	}
	return Nat{shiftRight(a.digits, n)}, api.OK
}

// Pow returns a to the power n.
func (a Nat) Pow(n int) (Nat, api.Errno) {
	if n < 0 {
		return Nat{}, api.ErrArg
	}
	// A number of b bits is at least 2^(b-1), so its power has more than (b-1)*n bits: those that are far too great are not computed.
	if b := a.digits.bitLen(); b > 1 && n > api.MaxBits/(b-1) {
		return Nat{}, api.ErrRange
	}
	return fitting(power(a.digits, digitsOf(uint64(n)), product))
}
