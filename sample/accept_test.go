package sample_test

import (
	"math"
	"math/big"
	"testing"

	"guilloche/api"
	"guilloche/nat"
	"guilloche/sample"
)

func TestAcceptOfAllSmallLots(t *testing.T) {
	for lot := range 9 {
		for bad := range lot + 1 {
			for n := range lot + 1 {
				shares := sampled(lot, bad, n)
				for c := -2; c <= lot+2; c++ {
					expectAccept(t, lot, bad, n, c, accepted(shares, c))
				}
			}
		}
	}
}

func TestAcceptOfGreatLots(t *testing.T) {
	for _, x := range [][3]int{{2048, 1024, 1024}, {2048, 1, 2047}, {2048, 2047, 1}, {2048, 20, 100}, {2048, 2000, 100}, {2047, 1500, 1400}, {1000, 333, 77}} {
		lot, bad, n := x[0], x[1], x[2]
		shares := computed(lot, bad, n)
		sums := upTo(shares)
		for _, c := range []int{0, 1, 2, n / 50, n / 2, max(0, n-2), n - 1, n} {
			expectAccept(t, lot, bad, n, c, sums[min(c, n)])
		}
	}
	r := newSource(1)
	for range 150 {
		lot := r.IntN(300)
		bad, n, c := r.IntN(lot+1), r.IntN(lot+1), r.IntN(lot+3)-1
		expectAccept(t, lot, bad, n, c, accepted(computed(lot, bad, n), c))
	}
}

func TestAcceptEdges(t *testing.T) {
	expectAccept(t, 10, 2, 3, 0, big.NewRat(7, 15))
	zero, one := new(big.Rat), big.NewRat(1, 1)
	for _, lot := range []int{0, 1, 5, api.MaxLot} {
		for _, bad := range []int{0, lot / 2, lot} {
			for _, n := range []int{0, lot / 2, lot} {
				for _, c := range []int{math.MinInt, math.MinInt + 1, -1 << 32, -2, -1} {
					expectAccept(t, lot, bad, n, c, zero)
				}
				for _, c := range []int{min(n, bad), n, n + 1, 1 << 32, math.MaxInt - 1, math.MaxInt} {
					expectAccept(t, lot, bad, n, c, one)
				}
			}
		}
		if lot > 0 {
			expectAccept(t, lot, lot, lot, lot-1, zero)
			expectAccept(t, lot, lot, 1, 0, zero)
		}
	}
}

func expectNoAccept(t *testing.T, lot, bad, n, c int) {
	t.Helper()
	got, err := sample.Accept(lot, bad, n, c)
	expectFrac(t, got, err, new(big.Rat), api.ErrArg, "Accept", lot, bad, n, c)
}

func TestAcceptErrors(t *testing.T) {
	for _, c := range []int{math.MinInt, -1, 0, 3, math.MaxInt} {
		for _, lot := range outside(0, api.MaxLot) {
			expectNoAccept(t, lot, 0, 0, c)
			expectNoAccept(t, lot, lot, lot, c)
		}
		for _, lot := range []int{0, 1, 7, api.MaxLot} {
			for _, bad := range outside(0, lot) {
				expectNoAccept(t, lot, bad, 0, c)
				expectNoAccept(t, lot, 0, bad, c)
				expectNoAccept(t, lot, bad, bad, c)
			}
		}
	}
}

// accept returns a probability that there is.
func accept(t *testing.T, lot, bad, n, c int) nat.Frac {
	t.Helper()
	f, err := sample.Accept(lot, bad, n, c)
	if err != api.OK {
		t.Fatalf("Accept(%d, %d, %d, %d) = %d", lot, bad, n, c, err)
	}
	return f
}

// With a greater c a lot is accepted rather, and with more bad pieces rather not.
func TestAcceptRisesAndFalls(t *testing.T) {
	for _, lot := range []int{1, 12, 40} {
		for n := 0; n <= lot; n += 1 + lot/15 {
			for bad := range lot + 1 {
				for c := -1; c <= n; c += 1 + lot/15 {
					f := accept(t, lot, bad, n, c)
					if f.Cmp(accept(t, lot, bad, n, c+1)) > 0 {
						t.Errorf("Accept(%d, %d, %d, %d) falls if c grows", lot, bad, n, c)
					}
					if bad < lot && f.Cmp(accept(t, lot, bad+1, n, c)) < 0 {
						t.Errorf("Accept(%d, %d, %d, %d) rises if bad grows", lot, bad, n, c)
					}
				}
			}
		}
	}
}

// The probabilities of all numbers of bad pieces add up to 1.
func TestProbabilitiesAddUp(t *testing.T) {
	for _, x := range [][3]int{{0, 0, 0}, {9, 4, 5}, {100, 30, 40}, {500, 499, 250}} {
		lot, bad, n := x[0], x[1], x[2]
		var sum nat.Frac
		for c := range n + 1 {
			share, err := accept(t, lot, bad, n, c).Sub(accept(t, lot, bad, n, c-1))
			if err != api.OK {
				t.Fatalf("exactly %d of %v: %d", c, x, err)
			}
			sum, _ = sum.Add(share)
		}
		if sum.String() != "1" {
			t.Errorf("the probabilities of %v add up to %.80s", x, sum)
		}
	}
}
