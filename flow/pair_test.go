package flow_test

import (
	"math"
	"math/rand/v2"
	"slices"
	"testing"

	"guilloche/api"
	"guilloche/flow"
)

// expectPair checks the matching and the cover against each other, and returns how many pairs there are.
func expectPair(t *testing.T, left, right int, pairs [][2]int) int {
	t.Helper()
	partners, inLeft, inRight, err := flow.Pair(left, right, pairs)
	if err != api.OK || len(partners) != left || len(inLeft) != left || len(inRight) != right {
		t.Fatalf("Pair(%d, %d, %v) = %v, %v, %v, %d", left, right, pairs, partners, inLeft, inRight, err)
	}
	used := map[int]bool{}
	for a, b := range partners {
		if b == -1 {
			continue
		}
		if used[b] || !slices.Contains(pairs, [2]int{a, b}) {
			t.Fatalf("Pair(%d, %d, %v) = %v: the pair %d, %d is wrong", left, right, pairs, partners, a, b)
		}
		used[b] = true
	}
	for _, pair := range pairs {
		if !inLeft[pair[0]] && !inRight[pair[1]] {
			t.Fatalf("Pair(%d, %d, %v): %v, %v do not cover %v", left, right, pairs, inLeft, inRight, pair)
		}
	}
	if n := count(inLeft) + count(inRight); n != len(used) {
		t.Fatalf("Pair(%d, %d, %v): %d pairs, but %d nodes cover", left, right, pairs, len(used), n)
	}
	return len(used)
}

func count(set []bool) int {
	n := 0
	for _, is := range set {
		if is {
			n++
		}
	}
	return n
}

// mostPairs returns how many pairs a matching has at the most. used is the set of the right nodes that have a partner.
func mostPairs(left int, pairs [][2]int, used int) int {
	if left == 0 {
		return 0
	}
	most := mostPairs(left-1, pairs, used)
	for _, pair := range pairs {
		if pair[0] == left-1 && used>>pair[1]&1 == 0 {
			most = max(most, 1+mostPairs(left-1, pairs, used|1<<pair[1]))
		}
	}
	return most
}

// All sets of pairs of up to three nodes on each side.
func TestPairSmall(t *testing.T) {
	for left := range 4 {
		for right := range 4 {
			for set := range 1 << (left * right) {
				var pairs [][2]int
				for i, is := range members(set, left*right) {
					if is {
						pairs = append(pairs, [2]int{i / right, i % right})
					}
				}
				if n, most := expectPair(t, left, right, pairs), mostPairs(left, pairs, 0); n != most {
					t.Fatalf("Pair(%d, %d, %v) has %d pairs; not %d", left, right, pairs, n, most)
				}
			}
		}
	}
}

func randomPairs(r *rand.Rand, left, right, n int) [][2]int {
	var pairs [][2]int
	for range n {
		pairs = append(pairs, [2]int{r.IntN(left), r.IntN(right)})
	}
	return pairs
}

// Pairs up to the limits, which are given several times. The cover shows that there is no greater matching.
func TestPairLarge(t *testing.T) {
	r := rand.New(rand.NewPCG(4, 5))
	for _, left := range []int{1, 5, 20, api.MaxSide} {
		for _, right := range []int{1, 6, 33, api.MaxSide} {
			for _, n := range []int{1, left, left + right, 4 * left, api.MaxArcs} {
				expectPair(t, left, right, randomPairs(r, left, right, n))
			}
		}
	}
}

func TestPairLimits(t *testing.T) {
	var same, steps [][2]int
	for v := range api.MaxSide {
		same = append(same, [2]int{v, v})
		steps = append(steps, [2]int{v, v / 2}, [2]int{v, (v + 1) % api.MaxSide})
	}
	for _, x := range []struct {
		left, right int
		pairs       [][2]int
		want        int
	}{
		{0, 0, nil, 0},
		{0, api.MaxSide, [][2]int{}, 0},
		{api.MaxSide, 0, nil, 0},
		{api.MaxSide, api.MaxSide, nil, 0},
		{api.MaxSide, api.MaxSide, same, api.MaxSide},
		{api.MaxSide, api.MaxSide, steps, api.MaxSide},
		{1, 1, slices.Repeat([][2]int{{0, 0}}, api.MaxArcs), 1},
		{2, 2, [][2]int{{0, 0}, {0, 0}, {1, 0}, {0, 1}}, 2},
	} {
		if n := expectPair(t, x.left, x.right, x.pairs); n != x.want {
			t.Errorf("Pair(%d, %d, %v) has %d pairs; not %d", x.left, x.right, x.pairs, n, x.want)
		}
	}
}

func TestPairErrors(t *testing.T) {
	bad := func(left, right int, pairs ...[2]int) {
		t.Helper()
		partners, inLeft, inRight, err := flow.Pair(left, right, pairs)
		if len(partners) != 0 || len(inLeft) != 0 || len(inRight) != 0 || err != api.ErrArg {
			t.Errorf("Pair(%d, %d, ..) = %v, %v, %v, %d", left, right, partners, inLeft, inRight, err)
		}
	}
	for _, n := range []int{math.MinInt, -1, api.MaxSide + 1, math.MaxInt} {
		bad(n, 5)
		bad(5, n)
		bad(n, n)
		bad(n, 5, [2]int{1, 1})
	}
	for _, v := range []int{math.MinInt, -1, 3, 4, math.MaxInt} {
		bad(3, 5, [2]int{v, 0})
		bad(5, 3, [2]int{0, v})
		bad(3, 5, [2]int{0, 0}, [2]int{v, 0}, [2]int{1, 1})
		bad(5, 3, [2]int{0, 0}, [2]int{1, 1}, [2]int{0, v})
	}
	bad(3, 5, [2]int{2, 5})
	bad(0, 5, [2]int{0, 0})
	bad(5, 0, [2]int{0, 0})
	bad(0, 0, [2]int{0, 0})
	bad(5, 5, slices.Repeat([][2]int{{1, 2}}, api.MaxArcs+1)...)
	bad(0, 0, make([][2]int, 2*api.MaxArcs)...)
}
