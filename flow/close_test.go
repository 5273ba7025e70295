package flow_test

import (
	"math"
	"math/rand/v2"
	"slices"
	"testing"

	"guilloche/api"
	"guilloche/flow"
)

func isClosed(set []bool, needs [][2]int) bool {
	for _, need := range needs {
		if set[need[0]] && !set[need[1]] {
			return false
		}
	}
	return true
}

func sumOf(weights []int, set []bool) int {
	sum := 0
	for i, is := range set {
		if is {
			sum += weights[i]
		}
	}
	return sum
}

// bestClosed returns the greatest sum of a closed set, and what is in all closed sets with this sum.
func bestClosed(weights []int, needs [][2]int) (int, []bool) {
	most, smallest := math.MinInt, []bool(nil)
	for set := range 1 << len(weights) {
		in := members(set, len(weights))
		if !isClosed(in, needs) {
			continue
		}
		switch sum := sumOf(weights, in); {
		case sum > most:
			most, smallest = sum, in
		case sum == most:
			smallest = both(smallest, in)
		}
	}
	return most, smallest
}

func expectClose(t *testing.T, weights []int, needs [][2]int, wantSum int, want []bool) {
	t.Helper()
	sum, set, err := flow.Close(weights, needs)
	if sum != wantSum || !slices.Equal(set, want) || err != api.OK {
		t.Errorf("Close(%v, %v) = %d, %v, %d; not %d, %v", weights, needs, sum, set, err, wantSum, want)
	}
}

func TestCloseExample(t *testing.T) {
	expectClose(t, []int{5, -3, -4}, [][2]int{{0, 1}}, 2, []bool{true, true, false})
}

// Three goods with all small weights and all needs, also of themselves.
func TestCloseTiny(t *testing.T) {
	for w := range 64 {
		weights := []int{w%4 - 2, w/4%4 - 2, w/16 - 1}
		for set := range 1 << 9 {
			var needs [][2]int
			for i, is := range members(set, 9) {
				if is {
					needs = append(needs, [2]int{i / 3, i % 3})
				}
			}
			sum, best := bestClosed(weights, needs)
			expectClose(t, weights, needs, sum, best)
		}
	}
}

// Random goods, against all closed sets.
func TestCloseSmall(t *testing.T) {
	r := rand.New(rand.NewPCG(4, 6))
	for n := range 10 {
		for m := range 3*n + 1 {
			for _, most := range []int{1, 4, api.MaxCap} {
				weights, needs := randomGoods(r, n, m, most)
				sum, best := bestClosed(weights, needs)
				expectClose(t, weights, needs, sum, best)
			}
		}
	}
}

func randomGoods(r *rand.Rand, n, m, most int) ([]int, [][2]int) {
	var weights []int
	for range n {
		weights = append(weights, r.IntN(2*most+1)-most)
	}
	return weights, randomPairs(r, n, n, m)
}

// Goods up to the limits, against the smallest cut of a network: what is lost in it is the positive weights outside it and the negative ones in it.
func TestCloseLarge(t *testing.T) {
	r := rand.New(rand.NewPCG(4, 7))
	const most = api.MaxCap / api.MaxGoods
	for _, m := range []int{10, 60, 120, 200, 500, api.MaxArcs - api.MaxGoods} {
		for _, unit := range []int{1, 5, most} {
			weights, needs := randomGoods(r, api.MaxGoods, m, most/unit)
			for i := range weights {
				weights[i] *= unit
			}
			sum, best := cutOfGoods(t, weights, needs)
			expectClose(t, weights, needs, sum, best)
			for i := range weights { // The same goods with greater weights have the same closed sets.
				weights[i] *= api.MaxCap / most
			}
			expectClose(t, weights, needs, sum*(api.MaxCap/most), best)
		}
	}
}

func cutOfGoods(t *testing.T, weights []int, needs [][2]int) (int, []bool) {
	n := len(weights)
	w := network{n: n + 2, s: n, t: n + 1}
	positive := 0
	for i, weight := range weights {
		if weight > 0 {
			positive += weight
			w.arcs = append(w.arcs, api.Arc{From: w.s, To: i, Cap: weight})
		} else {
			w.arcs = append(w.arcs, api.Arc{From: i, To: w.t, Cap: -weight})
		}
	}
	for _, need := range needs {
		if need[0] != need[1] {
			w.arcs = append(w.arcs, api.Arc{From: need[0], To: need[1], Cap: api.MaxCap})
		}
	}
	value, cut, err := w.cut()
	if err != api.OK {
		t.Fatalf("Cut = %d", err)
	}
	return positive - value, cut[:n]
}

func TestCloseLimits(t *testing.T) {
	const n = api.MaxGoods
	most, chain := slices.Repeat([]int{api.MaxCap}, n), [][2]int{{0, 0}}
	for i := range n - 1 {
		chain = append(chain, [2]int{i + 1, i})
	}
	all, none := slices.Repeat([]bool{true}, n), make([]bool, n)
	expectClose(t, nil, nil, 0, nil)
	expectClose(t, []int{}, [][2]int{}, 0, []bool{})
	expectClose(t, most, nil, n*api.MaxCap, all)
	expectClose(t, most, chain, n*api.MaxCap, all)
	expectClose(t, most, slices.Repeat([][2]int{{3, 3}}, api.MaxArcs), n*api.MaxCap, all)
	least := slices.Repeat([]int{-api.MaxCap}, n)
	expectClose(t, least, chain, 0, none)
	expectClose(t, make([]int, n), chain, 0, none) // The smallest set has no goods without a weight,
	gain := make([]int, n)
	gain[n-1] = 1
	expectClose(t, gain, chain, 1, all) // unless they are needed.
	gain[0] = -1
	expectClose(t, gain, chain, 0, none)
	half := append(slices.Clone(least[n/2+1:]), most[n/2-1:]...)
	expectClose(t, half, chain, 2*api.MaxCap, all)
}

func TestCloseErrors(t *testing.T) {
	bad := func(weights []int, needs ...[2]int) {
		t.Helper()
		if sum, set, err := flow.Close(weights, needs); sum != 0 || len(set) != 0 || err != api.ErrArg {
			t.Errorf("Close(%v, %v) = %d, %v, %d", weights, needs, sum, set, err)
		}
	}
	bad(make([]int, api.MaxGoods+1))
	bad(make([]int, 5*api.MaxGoods), [2]int{0, 1})
	for _, weight := range []int{math.MinInt, -api.MaxCap - 1, api.MaxCap + 1, math.MaxInt} {
		bad([]int{weight})
		bad([]int{1, 2, weight}, [2]int{0, 1})
	}
	for _, i := range []int{math.MinInt, -1, 2, 3, math.MaxInt} {
		bad([]int{1, -1}, [2]int{i, 0})
		bad([]int{1, -1}, [2]int{1, i})
		bad([]int{1, -1}, [2]int{0, 1}, [2]int{i, i})
	}
	bad(nil, [2]int{0, 0})
	bad([]int{1, -1}, slices.Repeat([][2]int{{0, 1}}, api.MaxArcs+1)...)
}
