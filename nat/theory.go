package nat

import "guilloche/api"

// PowMod returns the remainder of a to the power e by m.
func (a Nat) PowMod(e, m Nat) (Nat, api.Errno) {
	if m.digits.isZero() {
		return Nat{}, api.ErrZero
	}
	times := func(x, y digits) digits {
		return remainder(product(x, y), m.digits)
	}
	result := power(remainder(a.digits, m.digits), e.digits, times)
	// The power 0 comes without a product, and is not less than the modulus 1.
	return Nat{remainder(result, m.digits)}, api.OK
}

// Inverse returns the number b less than m for which a times b has the same remainder by m as 1.
func (a Nat) Inverse(m Nat) (Nat, api.Errno) {
	if m.digits.isZero() {
		return Nat{}, api.ErrZero
	}
	if m.digits.isOne() {
		return Nat{}, api.OK
	}
	divisor, factor, negative := euclid(a.digits, m.digits)
	if !divisor.isOne() {
		return Nat{}, api.ErrNoInverse
	}
	if negative {
		factor = difference(m.digits, factor)
	}
	return Nat{factor}, api.OK
}

// euclid returns the greatest common divisor of a and m, which is not 0, and the factor with which a yields it modulo m, as its absolute value and whether it is negative.
func euclid(a, m digits) (digits, digits, bool) {
	left, right := m, remainder(a, m)
	// The factors with which a yields left and right; their signs differ, and alternate from step to step.
	var ofLeft digits
	ofRight := digitsOf(1)
	negative := true
	for !right.isZero() {
		whole, rest := divide(left, right)
		left, right = right, rest
		ofLeft, ofRight = ofRight, sum(ofLeft, product(whole, ofRight))
		negative = !negative
	}
	return left, ofLeft, negative
}

// Sqrt returns the greatest number whose square is at most a.
func (a Nat) Sqrt() Nat {
	if a.digits.isZero() {
		return Nat{}
	}
	// Newton's steps descend from any start that is not less than the root, until they would rise.
	root := shiftLeft(digitsOf(1), (a.digits.bitLen()+1)/2)
	for {
		next := shiftRight(sum(root, quotient(a.digits, root)), 1)
		if compare(next, root) >= 0 {
			return Nat{root}
		}
		root = next
	}
}

// Gcd returns the greatest common divisor; if one of the numbers is 0, the other one.
func Gcd(a, b Nat) Nat { return Nat{gcd(a.digits, b.digits).clone()} }

// gcd may return one of its operands itself.
func gcd(a, b digits) digits {
	for !b.isZero() {
		a, b = b, remainder(a, b)
	}
	return a
}

// Binomial returns the number of subsets with k elements of a set with n elements.
func Binomial(n, k int) (Nat, api.Errno) {
	if n < 0 || n > api.MaxChoose || k < 0 {
		return Nat{}, api.ErrArg
	}
	if k > n {
		return Nat{}, api.OK
	}
	result := digitsOf(1)
	for i := range min(k, n-k) {
		// The result is now Binomial(n, i), so that the division below leaves no remainder.
		result, _ = divideByDigit(product(result, digitsOf(uint64(n-i))), uint32(i+1))
	}
	return fitting(result)
}
