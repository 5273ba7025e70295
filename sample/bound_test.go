package sample_test

import (
	"math/big"
	"testing"

	"guilloche/api"
	"guilloche/sample"
)

// greatest tries all numbers of bad pieces that the lot may have, the greatest one first.
func greatest(lot, n, found, risk int, shares func(lot, bad, n int) []*big.Rat) int {
	for k := lot - n + found; k > found; k-- {
		if accepted(shares(lot, k, n), found).Cmp(millionths(risk)) > 0 {
			return k
		}
	}
	return found
}

func TestBoundOfAllSmallLots(t *testing.T) {
	for lot := range 7 {
		for n := range lot + 1 {
			for found := range n + 1 {
				for _, risk := range risks() {
					expectBound(t, lot, n, found, risk, greatest(lot, n, found, risk, sampled))
				}
			}
		}
	}
}

func TestBoundOfGreatLots(t *testing.T) {
	for _, x := range [][3]int{{256, 128, 64}, {256, 30, 0}, {256, 20, 20}, {256, 250, 3}, {100, 40, 2}} {
		for _, risk := range []int{1, 50000, 500000, 999999} {
			expectBound(t, x[0], x[1], x[2], risk, greatest(x[0], x[1], x[2], risk, computed))
		}
	}
}

func TestBoundEdges(t *testing.T) {
	// With 5 bad pieces of 10, a sample of 1 is good in exactly one half of all cases, which is not more than one half.
	expectBound(t, 10, 1, 0, 500000, 4)
	expectBound(t, 10, 1, 0, 499999, 5)
	for _, lot := range []int{0, 1, 10, api.MaxPlan} {
		// Nothing is more probable than 1, and all that is possible is more probable than 0.
		for _, n := range []int{0, lot / 2, lot} {
			for _, found := range []int{0, n / 2, n} {
				expectBound(t, lot, n, found, api.Million, found)
				expectBound(t, lot, n, found, 0, lot-n+found)
			}
		}
		// A sample of no piece says nothing, and one of all pieces says all.
		expectBound(t, lot, 0, 0, api.Million-1, lot)
		expectBound(t, lot, lot, lot/3, 1000, lot/3)
	}
}

func expectNoBound(t *testing.T, lot, n, found, risk int) {
	t.Helper()
	if got, err := sample.Bound(lot, n, found, risk); got != 0 || err != api.ErrArg {
		t.Errorf("Bound(%d, %d, %d, %d) = %d, %d", lot, n, found, risk, got, err)
	}
}

func TestBoundErrors(t *testing.T) {
	for _, lot := range outside(0, api.MaxPlan) {
		expectNoBound(t, lot, 0, 0, 1000)
		expectNoBound(t, lot, lot, lot, 1000)
	}
	for _, lot := range []int{0, 10} {
		for _, n := range outside(0, lot) {
			expectNoBound(t, lot, n, 0, 1000)
			expectNoBound(t, lot, n, n, 1000)
		}
		for _, n := range []int{0, lot / 2, lot} {
			for _, found := range outside(0, n) {
				expectNoBound(t, lot, n, found, 1000)
			}
			for _, risk := range outside(0, api.Million) {
				expectNoBound(t, lot, n, 0, risk)
			}
		}
	}
}
