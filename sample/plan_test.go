package sample_test

import (
	"math"
	"math/big"
	"testing"

	"guilloche/api"
	"guilloche/sample"
)

// tables are the probabilities of acceptance of a lot, by the sample size and the acceptance number.
type tables [][]*big.Rat

func tablesOf(lot, bad int, shares func(lot, bad, n int) []*big.Rat) tables {
	var out tables
	for n := range lot + 1 {
		out = append(out, upTo(shares(lot, bad, n)))
	}
	return out
}

// least tries all sample sizes and all acceptance numbers.
func least(good, bad tables, alpha, beta int) (int, int) {
	atLeast, atMost := millionths(api.Million-alpha), millionths(beta)
	for n := range good {
		for c := range good[n] {
			if good[n][c].Cmp(atLeast) >= 0 && bad[n][c].Cmp(atMost) <= 0 {
				return n, c
			}
		}
	}
	return -1, -1
}

func TestPlanOfAllSmallLots(t *testing.T) {
	for lot := 1; lot <= 7; lot++ {
		var all []tables
		for bad := range lot + 1 {
			all = append(all, tablesOf(lot, bad, sampled))
		}
		for bad := range lot + 1 {
			for good := range bad {
				for _, alpha := range risks() {
					for _, beta := range risks() {
						n, c := least(all[good], all[bad], alpha, beta)
						expectPlan(t, [5]int{lot, good, bad, alpha, beta}, n, c)
					}
				}
			}
		}
	}
}

func TestPlanOfGreatLots(t *testing.T) {
	for _, x := range [][3]int{{256, 5, 40}, {256, 127, 129}, {255, 200, 230}, {100, 0, 10}, {97, 30, 31}} {
		lot, good, bad := x[0], x[1], x[2]
		right, wrong := tablesOf(lot, good, computed), tablesOf(lot, bad, computed)
		for _, alpha := range []int{0, 1, 50000, 500000, 999999, api.Million} {
			for _, beta := range []int{0, 1, 100000, 500000, 999999, api.Million} {
				n, c := least(right, wrong, alpha, beta)
				expectPlan(t, [5]int{lot, good, bad, alpha, beta}, n, c)
			}
		}
	}
}

func TestPlanEdges(t *testing.T) {
	expectPlan(t, [5]int{10, 0, 5, 0, 100000}, 3, 0)
	// The lot with 5 bad pieces is accepted by a sample of 1 in exactly one half of all cases.
	expectPlan(t, [5]int{10, 0, 5, 0, 500000}, 1, 0)
	expectPlan(t, [5]int{10, 0, 5, 0, 499999}, 2, 0)
	// The lot with 2 bad pieces is rejected by a sample of 1 in exactly one fifth of all cases.
	expectPlan(t, [5]int{10, 2, 10, 200000, 0}, 1, 0)
	expectPlan(t, [5]int{10, 2, 10, 199999, 0}, 2, 1)
	// No piece is needed if everything may be accepted, and no bad one is allowed if everything may be rejected.
	expectPlan(t, [5]int{10, 2, 5, 0, api.Million}, 0, 0)
	expectPlan(t, [5]int{10, 9, 10, api.Million, 0}, 1, 0)
	expectPlan(t, [5]int{10, 8, 9, api.Million, 0}, 2, 0)
	// Without risks all pieces that may decide are inspected.
	for _, lot := range []int{1, 2, 10, api.MaxPlan} {
		for bad := 1; bad <= lot; bad += 1 + lot/10 {
			expectPlan(t, [5]int{lot, bad - 1, bad, 0, 0}, lot, bad-1)
		}
	}
}

// There are risks that a sample keeps and a greater one does not, so that the sample sizes are to be tried one by one.
func TestPlanBelowWorseSizes(t *testing.T) {
	right, wrong := tablesOf(20, 2, computed), tablesOf(20, 8, computed)
	alpha, beta := 100000, 300000
	n, c := least(right, wrong, alpha, beta)
	m, _ := least(right[n+1:n+2], wrong[n+1:n+2], alpha, beta)
	if m >= 0 {
		t.Fatalf("the sample size after %d keeps the risks as well", n)
	}
	expectPlan(t, [5]int{20, 2, 8, alpha, beta}, n, c)
}

func expectNoPlan(t *testing.T, lot, good, bad, alpha, beta int) {
	t.Helper()
	if n, c, err := sample.Plan(lot, good, bad, alpha, beta); n != 0 || c != 0 || err != api.ErrArg {
		t.Errorf("Plan(%d, %d, %d, %d, %d) = %d, %d, %d", lot, good, bad, alpha, beta, n, c, err)
	}
}

func TestPlanErrors(t *testing.T) {
	for _, lot := range outside(1, api.MaxPlan) {
		expectNoPlan(t, lot, 0, 1, 0, 0)
		expectNoPlan(t, lot, 0, 0, api.Million, api.Million)
		expectNoPlan(t, lot, 0, lot, 1000, 1000)
	}
	for _, bad := range outside(1, 10) {
		expectNoPlan(t, 10, 0, bad, 1000, 1000)
		expectNoPlan(t, 10, bad, bad, 1000, 1000)
	}
	for _, good := range outside(0, 9) {
		expectNoPlan(t, 10, good, 10, 1000, 1000)
	}
	for _, x := range [][2]int{{0, 0}, {5, 5}, {10, 10}, {5, 4}, {10, 0}, {-2, -1}, {-1, 5}, {math.MinInt, math.MinInt + 1}, {0, math.MinInt}, {math.MaxInt, math.MinInt}} {
		expectNoPlan(t, 10, x[0], x[1], 1000, 1000)
	}
	for _, risk := range outside(0, api.Million) {
		expectNoPlan(t, 10, 0, 5, risk, 1000)
		expectNoPlan(t, 10, 0, 5, 1000, risk)
		expectNoPlan(t, 10, 0, 5, risk, risk)
	}
}
