package nat

import (
	"cmp"
	"math/bits"
	"slices"
)

// digits are the digits of a natural number of any size to the base 2^32, the lowest one first and the highest one not 0.
// Functions of digits change none of them and return new memory, unless their comments say otherwise.
type digits []uint32

const (
	digitBits = 32
	maxDigit  = 1<<digitBits - 1
)

// trim cuts off leading zeros. It cuts the capacity as well, so that nothing that is appended to one number is written into another.
func trim(d []uint32) digits {
	n := len(d)
	for n > 0 && d[n-1] == 0 {
		n--
	}
	return d[:n:n]
}

func digitsOf(n uint64) digits {
	return trim([]uint32{uint32(n), uint32(n >> digitBits)})
}

// at returns the digit with the weight 2^(32i), also beyond the highest one.
func (d digits) at(i int) uint64 {
	if i < len(d) {
		return uint64(d[i])
	}
	return 0
}

func (d digits) isZero() bool { return len(d) == 0 }

func (d digits) isOne() bool { return len(d) == 1 && d[0] == 1 }

func (d digits) bitLen() int {
	if d.isZero() {
		return 0
	}
	top := len(d) - 1
	return top*digitBits + bits.Len32(d[top])
}

func (d digits) bit(i int) int {
	return int(d.at(i/digitBits) >> (i % digitBits) & 1)
}

func compare(a, b digits) int {
	if len(a) != len(b) {
		return cmp.Compare(len(a), len(b))
	}
	for i := len(a) - 1; i >= 0; i-- {
		if a[i] != b[i] {
			return cmp.Compare(a[i], b[i])
		}
	}
	return 0
}

func sum(a, b digits) digits {
	n := max(len(a), len(b))
	out := make([]uint32, n+1)
	var carry uint64
	for i := range n {
		carry += a.at(i) + b.at(i)
		out[i] = uint32(carry)
		carry >>= digitBits
	}
	out[n] = uint32(carry)
	return trim(out)
}

// difference returns a minus b, which is not greater than a.
func difference(a, b digits) digits {
	out := make([]uint32, len(a))
	var borrow uint64
	for i := range len(a) {
		rest := uint64(a[i]) - b.at(i) - borrow
		out[i] = uint32(rest)
		borrow = rest >> 63
	}
	return trim(out)
}

func product(a, b digits) digits {
	out := make([]uint32, len(a)+len(b))
	for i := range len(a) {
		end := i + len(b)
		out[end] = addRow(out[i:end:end], b, a[i])
	}
	return trim(out)
}

// addRow adds row times factor to out, which has as many digits as row, and returns the carry.
func addRow(out []uint32, row digits, factor uint32) uint32 {
	var carry uint64
	for i := range len(row) {
		carry += uint64(row[i])*uint64(factor) + uint64(out[i])
		out[i] = uint32(carry)
		carry >>= digitBits
	}
	return uint32(carry)
}

// shiftLeft returns d times 2^n.
func shiftLeft(d digits, n int) digits {
	whole, part := n/digitBits, n%digitBits
	out := make([]uint32, len(d)+whole+1)
	var carry uint64
	for i := range len(d) {
		carry |= uint64(d[i]) << part
		out[i+whole] = uint32(carry)
		carry >>= digitBits
	}
	out[len(d)+whole] = uint32(carry)
	return trim(out)
}

// shiftRight returns d divided by 2^n, rounded down.
func shiftRight(d digits, n int) digits {
	whole, part := n/digitBits, n%digitBits
	if whole >= len(d) {
		return nil
	}
	out := make([]uint32, len(d)-whole)
	for i := range len(out) {
		pair := d.at(i+whole) | d.at(i+whole+1)<<digitBits
		out[i] = uint32(pair >> part)
	}
	return trim(out)
}

// power returns base to the power exponent, with times as the product. It reads the exponent from its highest binary digit on, so that no number on the way is greater than the result.
func power(base, exponent digits, times func(a, b digits) digits) digits {
	result := digitsOf(1)
	for i := exponent.bitLen() - 1; i >= 0; i-- {
		result = times(result, result)
		if exponent.bit(i) == 1 {
			result = times(result, base)
		}
	}
	return result
}

func (d digits) clone() digits { return trim(slices.Clone(d)) }
