package sample

import (
	"iter"

	"guilloche/api"
	"guilloche/nat"
)

// samples counts the samples of a lot. All its numbers, also times Million, are far below what fits, so that the errors of their sums and products are passed over.
type samples struct {
	lot  int
	bad  []nat.Nat // how many sets of bad pieces there are, by their size
	good []nat.Nat // how many sets of good pieces there are, by their size
}

func samplesOf(lot, bad int) samples { return samples{lot, subsets(bad), subsets(lot - bad)} }

// subsets returns how many subsets a set of n elements has, by their size. It computes each number from the one before, which is much faster than to compute each one anew.
func subsets(n int) []nat.Nat {
	count, _ := nat.New(1)
	out := []nat.Nat{count}
	for size := range n {
		next, _ := nat.New(size + 1)
		count, _, _ = times(count, n-size).DivMod(next)
		out = append(out, count)
	}
	return out
}

// times returns a times n, which is not negative.
func times(a nat.Nat, n int) nat.Nat {
	factor, _ := nat.New(n)
	product, _ := a.Mul(factor)
	return product
}

// accumulator returns a function that adds a number to all that it was given before, and returns the sum.
func accumulator() func(nat.Nat) nat.Nat {
	var sum nat.Nat
	return func(n nat.Nat) nat.Nat {
		sum, _ = sum.Add(n)
		return sum
	}
}

// all returns the number of samples of n pieces.
func (s samples) all(n int) nat.Nat {
	count, _ := nat.Binomial(s.lot, n)
	return count
}

// terms visits all numbers of bad pieces from lo to hi that are possible by the size of the sample, with the number of samples of n pieces that have so many.
func (s samples) terms(n, lo, hi int) iter.Seq2[int, nat.Nat] {
	return func(yield func(int, nat.Nat) bool) {
		for bad := max(lo, 0); bad <= min(hi, n); bad++ {
			count, _ := at(s.bad, bad).Mul(at(s.good, n-bad))
			if !yield(bad, count) {
				return
			}
		}
	}
}

// at returns the number of sets of that size, of which there are none beyond the list.
func at(sets []nat.Nat, size int) nat.Nat {
	if size < len(sets) {
		return sets[size]
	}
	return nat.Nat{}
}

// count returns the number of samples of n pieces of which from lo to hi are bad.
func (s samples) count(n, lo, hi int) nat.Nat {
	var sum nat.Nat
	add := accumulator()
	for _, count := range s.terms(n, lo, hi) {
		sum = add(count)
	}
	return sum
}

// chance returns the probability that from lo to hi pieces of a sample of n are bad.
func (s samples) chance(n, lo, hi int) nat.Frac {
	f, _ := nat.NewFrac(s.count(n, lo, hi), s.all(n))
	return f
}

// compare compares the probability that at most c pieces of a sample of n are bad with so many millionths.
func (s samples) compare(n, c, millionths int) int {
	return times(s.count(n, 0, c), api.Million).Cmp(times(s.all(n), millionths))
}

// least returns the least c for which the probability that at most c pieces of a sample of n are bad is at least so many millionths.
func (s samples) least(n, millionths int) int {
	limit := times(s.all(n), millionths)
	add := accumulator()
	for c, count := range s.terms(n, 0, n) {
		sum := add(count)
		if times(sum, api.Million).Cmp(limit) >= 0 {
			return c
		}
	}
	return n // not reached: the last sum is that of all samples
}
