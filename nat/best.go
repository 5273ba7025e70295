package nat

import "guilloche/api"

// ratio is a quotient on the way to the best approximation: a fraction in lowest terms, or 1 divided by 0.
type ratio struct {
	num, den digits
}

// plus returns the ratio whose terms are those of r, plus n times those of s.
func (r ratio) plus(n digits, s ratio) ratio {
	return ratio{sum(r.num, product(n, s.num)), sum(r.den, product(n, s.den))}
}

// Best returns the fraction nearest to f whose denominator is at most most.
func (f Frac) Best(most int) (Frac, api.Errno) {
	if most < 1 {
		return Frac{}, api.ErrArg
	}
	num, den := f.terms()
	target, limit := ratio{num, den}, digitsOf(uint64(most))
	if compare(den, limit) <= 0 {
		return Frac{num.clone(), den.clone()}, api.OK
	}
	near := nearest(target, limit)
	return Frac{near.num, near.den}, api.OK
}

// nearest returns the best approximation of target, whose denominator is greater than limit.
func nearest(target ratio, limit digits) ratio {
	// Consecutive convergents of the continued fraction of target: last is the nearer one. The next one has a denominator greater than limit at the latest when it is target.
	before, last := ratio{nil, digitsOf(1)}, ratio{digitsOf(1), nil}
	left, right := target.num, target.den
	for {
		whole, rest := divide(left, right)
		next := before.plus(whole, last)
		if compare(next.den, limit) > 0 {
			break
		}
		before, last = last, next
		left, right = right, rest
	}
	// The nearest fraction on the other side of target. If both are equally near, last is wanted: its denominator is less, or both denominators are 1 and last is less.
	steps := quotient(difference(limit, before.den), last.den)
	other := before.plus(steps, last)
	if isNearer(target, other, last) {
		return other
	}
	return last
}

func isNearer(target, a, b ratio) bool {
	return compare(product(gap(target, a), b.den), product(gap(target, b), a.den)) < 0
}

// gap returns the distance of r from target, times the product of their denominators.
func gap(target, r ratio) digits {
	left, right := product(target.num, r.den), product(r.num, target.den)
	if compare(left, right) < 0 {
		left, right = right, left
	}
	return difference(left, right)
}
