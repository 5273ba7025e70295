package nat

import "math/bits"

// divide returns the quotient of a by b, which is not 0, and the remainder.
func divide(a, b digits) (digits, digits) {
	if compare(a, b) < 0 {
		return nil, a.clone()
	}
	if len(b) == 1 {
		whole, rest := divideByDigit(a, b[0])
		return whole, digitsOf(uint64(rest))
	}
	return divideLong(a, b)
}

func remainder(a, b digits) digits {
	_, rest := divide(a, b)
	return rest
}

func quotient(a, b digits) digits {
	whole, _ := divide(a, b)
	return whole
}

func divideByDigit(a digits, b uint32) (digits, uint32) {
	out := make([]uint32, len(a))
	var rest uint64
	for i := len(a) - 1; i >= 0; i-- {
		rest = rest<<digitBits | uint64(a[i])
		out[i] = uint32(rest / uint64(b))
		rest %= uint64(b)
	}
	return trim(out), uint32(rest)
}

// divideLong divides a by b, which has at least two digits and is not greater than a.
func divideLong(a, b digits) (digits, digits) {
	n := len(b)
	// A divisor whose highest binary digit is set keeps the estimates close.
	shift := bits.LeadingZeros32(b[n-1])
	divisor := shiftLeft(b, shift)
	rest := make([]uint32, len(a)+1)
	copy(rest, shiftLeft(a, shift))
	out := make([]uint32, len(a)-n+1)
	for i := range len(out) {
		at := len(out) - 1 - i
		end := at + n + 1
		out[at] = divideWindow(rest[at:end:end], divisor)
	}
	return trim(out), shiftRight(trim(rest[:n]), shift)
}

// divideWindow returns the digit that is the quotient of window by divisor. The window has one digit more than divisor; the remainder is left in its other digits, as the highest one is not read again.
func divideWindow(window []uint32, divisor digits) uint32 {
	n := len(divisor)
	digit, rest := estimate(window, divisor), window[:n:n]
	if subtractRow(rest, divisor, digit) > window[n] {
		// The estimate was one too great: rest has wrapped around, and wraps back.
		digit--
		addRow(rest, divisor, 1)
	}
	return digit
}

// estimate returns the quotient of window by divisor, or one more.
func estimate(window []uint32, divisor digits) uint32 {
	n := len(divisor)
	first, second := uint64(divisor[n-1]), uint64(divisor[n-2])
	high, next := uint64(window[n])<<digitBits|uint64(window[n-1]), uint64(window[n-2])
	guess, rest := high/first, high%first
correct:
	for guess > maxDigit || guess*second > rest<<digitBits|next {
		guess--
		rest += first
		if rest > maxDigit {
			break correct
		}
	}
	return uint32(guess)
}

// subtractRow subtracts row times factor from out, which has as many digits as row, and returns what is to be subtracted from the digit above.
func subtractRow(out []uint32, row digits, factor uint32) uint32 {
	var carry, borrow uint64
	for i := range len(row) {
		carry += uint64(row[i]) * uint64(factor)
		rest := uint64(out[i]) - carry&maxDigit - borrow
		out[i] = uint32(rest)
		carry >>= digitBits
		borrow = rest >> 63
	}
	return uint32(carry + borrow)
}
