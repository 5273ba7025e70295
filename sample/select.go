package sample

import (
	"cmp"
	"math"
	"math/bits"
	"slices"
)

// allot divides n draws among strata with these sizes, of which total is the sum.
func allot(n, total int, sizes []int) []int {
	out := make([]int, len(sizes))
	if total == 0 {
		return out
	}
	rests, order := make([]uint64, len(sizes)), make([]int, len(sizes))
	left := n
	for i, size := range sizes {
		// The product may have more than 64 bits; the quotient is at most size.
		high, low := bits.Mul64(uint64(n), uint64(size))
		share, rest := bits.Div64(high, low, uint64(total))
		out[i], rests[i], order[i] = int(share), rest, i
		left -= out[i]
	}
	slices.SortStableFunc(order, func(i, k int) int { return cmp.Compare(rests[k], rests[i]) })
	for _, i := range order[:left] {
		out[i]++
	}
	return out
}

// generator yields the same words from the same state.
type generator struct {
	state uint64
}

func (g *generator) word() uint64 {
	g.state += 0x9E3779B97F4A7C15
	z := g.state
	z = (z ^ z>>30) * 0xBF58476D1CE4E5B9
	z = (z ^ z>>27) * 0x94D049BB133111EB
	return z ^ z>>31
}

// below returns a number from 0 to m - 1. It passes over the highest words, which would make some numbers more probable than others.
func (g *generator) below(m int) int {
	limit := uint64(m)
	rest := -limit % limit // that of 2^64, since -limit is 2^64 - limit
	word := g.word()
	for word > math.MaxUint64-rest {
		word = g.word()
	}
	return int(word % limit)
}
