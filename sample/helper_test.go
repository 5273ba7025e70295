package sample_test

import (
	"math"
	"math/big"
	"math/bits"
	"math/rand/v2"
	"testing"

	"guilloche/api"
	"guilloche/nat"
	"guilloche/sample"
)

// The tests compute what they expect with math/big, or from all samples one by one.

func newSource(seed uint64) *rand.Rand { return rand.New(rand.NewPCG(seed, 6)) }

// outside returns numbers that are not from lo to hi.
func outside(lo, hi int) []int {
	return []int{math.MinInt, math.MinInt + 1, -1 << 32, lo - 2, lo - 1, hi + 1, hi + 2, 1 << 50, math.MaxInt - 1, math.MaxInt}
}

// choices visits all sets of n of the numbers 0 to lot - 1, as the binary digits of a number.
func choices(lot, n int, visit func(set int)) {
	for set := range 1 << lot {
		if bits.OnesCount(uint(set)) == n {
			visit(set)
		}
	}
}

// sampled returns, for each number of bad pieces, the share of the samples that have so many. It counts all samples, the first pieces of the lot being the bad ones.
func sampled(lot, bad, n int) []*big.Rat {
	counts, all := make([]int64, n+1), int64(0)
	choices(lot, n, func(set int) {
		counts[bits.OnesCount(uint(set&(1<<bad-1)))]++
		all++
	})
	var out []*big.Rat
	for _, count := range counts {
		out = append(out, big.NewRat(count, all))
	}
	return out
}

// computed returns the same as sampled, by the formula.
func computed(lot, bad, n int) []*big.Rat {
	all := new(big.Int).Binomial(int64(lot), int64(n))
	var out []*big.Rat
	for i := range n + 1 {
		count := new(big.Int).Binomial(int64(bad), int64(i))
		count.Mul(count, new(big.Int).Binomial(int64(lot-bad), int64(n-i)))
		out = append(out, new(big.Rat).SetFrac(count, all))
	}
	return out
}

// upTo returns the sums of the first shares: that at c belongs to at most c bad pieces.
func upTo(shares []*big.Rat) []*big.Rat {
	sum := new(big.Rat)
	var out []*big.Rat
	for _, share := range shares {
		sum.Add(sum, share)
		out = append(out, new(big.Rat).Set(sum))
	}
	return out
}

// accepted returns the probability of at most c bad pieces, whatever c is.
func accepted(shares []*big.Rat, c int) *big.Rat {
	if c < 0 {
		return new(big.Rat)
	}
	return upTo(shares)[min(c, len(shares)-1)]
}

func millionths(n int) *big.Rat { return big.NewRat(int64(n), api.Million) }

// risks returns risks of all sizes. Some of them are exact probabilities in small lots, or next to one.
func risks() []int {
	return []int{0, 1, 50000, 99999, 100000, 166666, 166667, 200000, 249999, 250000, 333333, 333334, 400000, 499999, 500000, 500001, 600000, 750000, 800000, 900000, 999999, api.Million}
}

// expectFrac compares a result with a value, or with an error if that is not OK.
func expectFrac(t *testing.T, got nat.Frac, err api.Errno, want *big.Rat, wantErr api.Errno, call string, args ...int) {
	t.Helper()
	text := want.RatString()
	if got.String() != text || err != wantErr {
		t.Errorf("%s%v = %.80s, %d; not %.80s, %d", call, args, got, err, text, wantErr)
	}
}

func expectAccept(t *testing.T, lot, bad, n, c int, want *big.Rat) {
	t.Helper()
	got, err := sample.Accept(lot, bad, n, c)
	expectFrac(t, got, err, want, api.OK, "Accept", lot, bad, n, c)
}

func expectPlan(t *testing.T, args [5]int, wantN, wantC int) {
	t.Helper()
	n, c, err := sample.Plan(args[0], args[1], args[2], args[3], args[4])
	if n != wantN || c != wantC || err != api.OK {
		t.Errorf("Plan(%v) = %d, %d, %d; not %d, %d", args, n, c, err, wantN, wantC)
	}
}

func expectBound(t *testing.T, lot, n, found, risk, want int) {
	t.Helper()
	if got, err := sample.Bound(lot, n, found, risk); got != want || err != api.OK {
		t.Errorf("Bound(%d, %d, %d, %d) = %d, %d; not %d", lot, n, found, risk, got, err, want)
	}
}

func expectJudge(t *testing.T, n, c int, found []bool, wantVerdict, wantCount int) {
	t.Helper()
	verdict, count, err := sample.Judge(n, c, found)
	if verdict != wantVerdict || count != wantCount || err != api.OK {
		t.Errorf("Judge(%d, %d, %v) = %d, %d, %d; not %d, %d", n, c, found, verdict, count, err, wantVerdict, wantCount)
	}
}

func expectExpect(t *testing.T, lot, bad, n, c int, want *big.Rat) {
	t.Helper()
	got, err := sample.Expect(lot, bad, n, c)
	expectFrac(t, got, err, want, api.OK, "Expect", lot, bad, n, c)
}
