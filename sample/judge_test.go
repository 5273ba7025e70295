package sample_test

import (
	"math"
	"math/big"
	"math/bits"
	"slices"
	"testing"

	"guilloche/api"
	"guilloche/sample"
)

// judge returns the verdict that all samples of n pieces have that begin with the pieces of found, and how many of these pieces are enough for it.
func judge(n, c int, found []bool) (int, int) {
	bad := 0
	for count := 0; ; count++ {
		if bad+n-count <= c {
			return api.Accepted, count
		}
		if bad > c {
			return api.Rejected, count
		}
		if count == len(found) {
			return api.Open, count
		}
		if found[count] {
			bad++
		}
	}
}

// pieces returns pieces that are bad where a binary digit of set is 1.
func pieces(set, count int) []bool {
	var out []bool
	for i := range count {
		out = append(out, set>>i&1 == 1)
	}
	return out
}

func TestJudgeOfAllShortLists(t *testing.T) {
	for count := range 9 {
		for set := range 1 << count {
			found := pieces(set, count)
			for n := range 10 {
				for c := range 10 {
					verdict, inspected := judge(n, c, found)
					expectJudge(t, n, c, found, verdict, inspected)
				}
			}
		}
	}
}

// The verdict is the same as that of the inspection of the whole sample.
func TestJudgeOfWholeSamples(t *testing.T) {
	for n := range 9 {
		for set := range 1 << n {
			for c := range n + 2 {
				want := api.Accepted
				if bits.OnesCount(uint(set)) > c {
					want = api.Rejected
				}
				if got, _, err := sample.Judge(n, c, pieces(set, n)); got != want || err != api.OK {
					t.Errorf("Judge(%d, %d, %b) = %d, %d", n, c, set, got, err)
				}
			}
		}
	}
}

func TestJudgeEdges(t *testing.T) {
	expectJudge(t, 5, 1, []bool{false, false, false, false}, api.Accepted, 4)
	expectJudge(t, 5, 1, []bool{false, false, false}, api.Open, 3)
	expectJudge(t, 5, 1, []bool{true, false, true, false}, api.Rejected, 3)
	for _, found := range [][]bool{nil, {}, {true}, {false, true, true}} {
		for _, n := range []int{0, 1, 7, math.MaxInt} {
			expectJudge(t, n, n, found, api.Accepted, 0)
			expectJudge(t, n, math.MaxInt, found, api.Accepted, 0)
		}
		expectJudge(t, math.MaxInt, math.MaxInt-4, found, api.Open, len(found))
	}
	expectJudge(t, math.MaxInt, math.MaxInt-1, []bool{true, true, false, true}, api.Accepted, 3)
	expectJudge(t, math.MaxInt, 0, []bool{false, false, true, true}, api.Rejected, 3)
	long := append(make([]bool, 1000000), slices.Repeat([]bool{true}, 1000000)...)
	expectJudge(t, math.MaxInt, 0, long, api.Rejected, 1000001)
	expectJudge(t, 1000000, 0, long, api.Accepted, 1000000)
	expectJudge(t, 3000000, 1000000, long, api.Open, 2000000)
}

func TestJudgeErrors(t *testing.T) {
	for _, bad := range []int{math.MinInt, -2, -1} {
		for _, x := range [][2]int{{bad, 0}, {0, bad}, {bad, bad}, {5, bad}, {bad, 5}, {bad, math.MaxInt}, {math.MaxInt, bad}} {
			for _, found := range [][]bool{nil, {false, true}} {
				if verdict, count, err := sample.Judge(x[0], x[1], found); verdict != 0 || count != 0 || err != api.ErrArg {
					t.Errorf("Judge(%v) = %d, %d, %d", x, verdict, count, err)
				}
			}
		}
	}
}

func TestJudgeChangesNothing(t *testing.T) {
	found := []bool{true, false, true, true}
	for range 2 {
		expectJudge(t, 9, 2, found, api.Rejected, 4)
	}
	if !slices.Equal(found, []bool{true, false, true, true}) {
		t.Errorf("the list has become %v", found)
	}
}

// inspected returns the mean number of inspected pieces, of all orders of a lot's good and bad pieces.
func inspected(lot, bad, n, c int) *big.Rat {
	sum, all := 0, 0
	choices(lot, bad, func(set int) {
		_, count := judge(n, c, pieces(set, lot))
		sum += count
		all++
	})
	return big.NewRat(int64(sum), int64(all))
}

func TestExpectOfAllSmallLots(t *testing.T) {
	for lot := range 9 {
		for bad := range lot + 1 {
			for n := range lot + 1 {
				for c := range lot + 2 {
					expectExpect(t, lot, bad, n, c, inspected(lot, bad, n, c))
				}
			}
		}
	}
}

// summed is the sum of the chapter.
func summed(lot, bad, n, c int) *big.Rat {
	sum := new(big.Rat)
	for g := range n - c {
		for b := range c + 1 {
			ways := new(big.Int).Binomial(int64(bad), int64(b))
			ways.Mul(ways, new(big.Int).Binomial(int64(lot-bad), int64(g)))
			sum.Add(sum, new(big.Rat).SetFrac(ways, new(big.Int).Binomial(int64(lot), int64(g+b))))
		}
	}
	return sum
}

func TestExpectIsTheSum(t *testing.T) {
	for _, x := range [][4]int{{60, 7, 40, 5}, {60, 50, 60, 30}, {100, 10, 33, 2}, {256, 20, 80, 3}, {256, 250, 200, 1}, {40, 20, 20, 25}} {
		expectExpect(t, x[0], x[1], x[2], x[3], summed(x[0], x[1], x[2], x[3]))
	}
}

// With the whole lot as the sample, the inspection ends at a certain good piece, or at a certain bad one. Good and bad pieces divide the others into parts with the same expected size.
func TestExpectOfWholeLots(t *testing.T) {
	for _, lot := range []int{1, 50, api.MaxPlan} {
		for bad := 0; bad <= lot; bad += 1 + lot/11 {
			for c := 0; c < lot; c += 1 + lot/13 {
				want := big.NewRat(int64((lot-c)*(lot+1)), int64(lot-bad+1))
				if c < bad {
					want = big.NewRat(int64((c+1)*(lot+1)), int64(bad+1))
				}
				expectExpect(t, lot, bad, lot, c, want)
			}
		}
	}
}

func TestExpectEdges(t *testing.T) {
	for _, lot := range []int{0, 1, 5, api.MaxPlan} {
		for _, n := range []int{0, lot / 2, lot} {
			for _, bad := range []int{0, lot / 2, lot} {
				for _, c := range []int{n, n + 1, 1 << 32, math.MaxInt - 1, math.MaxInt} {
					expectExpect(t, lot, bad, n, c, new(big.Rat))
				}
			}
			for c := 0; c < n; c += 1 + lot/5 {
				expectExpect(t, lot, 0, n, c, big.NewRat(int64(n-c), 1))
				expectExpect(t, lot, lot, n, c, big.NewRat(int64(c+1), 1))
			}
		}
	}
}

func expectNoExpect(t *testing.T, lot, bad, n, c int) {
	t.Helper()
	got, err := sample.Expect(lot, bad, n, c)
	expectFrac(t, got, err, new(big.Rat), api.ErrArg, "Expect", lot, bad, n, c)
}

func TestExpectErrors(t *testing.T) {
	for _, lot := range outside(0, api.MaxPlan) {
		expectNoExpect(t, lot, 0, 0, 0)
		expectNoExpect(t, lot, lot, lot, 3)
	}
	for _, lot := range []int{0, 10, api.MaxPlan} {
		for _, bad := range outside(0, lot) {
			expectNoExpect(t, lot, bad, 0, 0)
			expectNoExpect(t, lot, 0, bad, 0)
			expectNoExpect(t, lot, bad, bad, math.MaxInt)
		}
		for _, c := range []int{math.MinInt, -1 << 32, -2, -1} {
			expectNoExpect(t, lot, 0, 0, c)
			expectNoExpect(t, lot, lot/2, lot, c)
		}
	}
}
