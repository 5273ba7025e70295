package sample_test

import (
	"math"
	"math/big"
	"slices"
	"testing"

	"guilloche/api"
	"guilloche/sample"
)

// shares gives each stratum its share, rounded down, and what is left, one by one, to the first of those with the greatest remainder that have received nothing of it.
func shares(n int, sizes []int) []int {
	total := new(big.Int)
	for _, size := range sizes {
		total.Add(total, big.NewInt(int64(size)))
	}
	out, rests, left := make([]int, len(sizes)), make([]*big.Int, len(sizes)), n
	if total.Sign() == 0 {
		return out
	}
	for i, size := range sizes {
		part := new(big.Int).Mul(big.NewInt(int64(n)), big.NewInt(int64(size)))
		rests[i] = new(big.Int)
		part.QuoRem(part, total, rests[i])
		out[i] = int(part.Int64())
		left -= out[i]
	}
	for range left {
		best := 0
		for i, rest := range rests {
			if rest.Cmp(rests[best]) > 0 {
				best = i
			}
		}
		out[best]++
		rests[best] = big.NewInt(-1)
	}
	return out
}

func expectAllot(t *testing.T, n int, sizes, want []int) {
	t.Helper()
	before := slices.Clone(sizes)
	got, err := sample.Allot(n, sizes)
	if !slices.Equal(got, want) || err != api.OK {
		t.Errorf("Allot(%d, %v) = %v, %d; not %v", n, sizes, got, err, want)
	}
	if !slices.Equal(sizes, before) {
		t.Errorf("Allot(%d, %v) has changed the sizes to %v", n, before, sizes)
	}
	sum := 0
	for i, share := range got {
		sum += share
		if share < 0 || share > sizes[i] {
			t.Errorf("Allot(%d, %v) = %v", n, sizes, got)
		}
	}
	if sum != n {
		t.Errorf("Allot(%d, %v) distributes %d", n, sizes, sum)
	}
}

func sumOf(sizes []int) int {
	total := 0
	for _, size := range sizes {
		total += size
	}
	return total
}

func TestAllotOfAllSmallStrata(t *testing.T) {
	for set := range 6 * 6 * 6 * 6 {
		for count := range 5 {
			sizes := []int{set % 6, set / 6 % 6, set / 36 % 6, set / 216}[:count]
			for n := range sumOf(sizes) + 1 {
				expectAllot(t, n, sizes, shares(n, sizes))
			}
		}
	}
}

func TestAllotOfGreatStrata(t *testing.T) {
	r := newSource(2)
	for range 1000 {
		var sizes []int
		for range r.IntN(api.MaxStrata + 1) {
			sizes = append(sizes, r.IntN(1<<r.IntN(41)+1))
		}
		total := sumOf(sizes)
		for _, n := range []int{0, total / 2, max(0, total-1), total, r.IntN(total + 1)} {
			expectAllot(t, n, sizes, shares(n, sizes))
		}
	}
}

func TestAllotEdges(t *testing.T) {
	expectAllot(t, 5, []int{3, 3, 4}, []int{2, 1, 2})
	expectAllot(t, 0, nil, nil)
	expectAllot(t, 0, []int{}, nil)
	expectAllot(t, 0, []int{0, 0, 0}, []int{0, 0, 0})
	expectAllot(t, 7, []int{0, 7, 0}, []int{0, 7, 0})
	expectAllot(t, 1, []int{0, 1, 1}, []int{0, 1, 0})
	// All remainders are equal: the first strata receive what is left.
	most := slices.Repeat([]int{api.MaxPieces}, api.MaxStrata)
	want := append(slices.Repeat([]int{1}, 40), make([]int, 24)...)
	expectAllot(t, 40, most, want)
	expectAllot(t, sumOf(most), most, most)
	want = slices.Repeat([]int{api.MaxPieces}, api.MaxStrata)
	want[api.MaxStrata-1]--
	expectAllot(t, sumOf(most)-1, most, want)
	// The products of n and the sizes have more than 64 bits.
	expectAllot(t, 1<<40, []int{1<<40 - 1, 1 << 40, 1}, []int{1 << 39, 1 << 39, 0})
}

func expectNoAllot(t *testing.T, n int, sizes []int) {
	t.Helper()
	if got, err := sample.Allot(n, sizes); len(got) != 0 || err != api.ErrArg {
		t.Errorf("Allot(%d, %v) = %v, %d", n, sizes, got, err)
	}
}

func TestAllotErrors(t *testing.T) {
	for _, n := range []int{0, 1, 65} {
		expectNoAllot(t, n, slices.Repeat([]int{1}, api.MaxStrata+1))
		expectNoAllot(t, n, make([]int, 1<<20))
		for _, bad := range outside(0, api.MaxPieces) {
			expectNoAllot(t, n, []int{bad})
			expectNoAllot(t, n, []int{100, bad, 100})
			expectNoAllot(t, n, slices.Repeat([]int{bad}, 4))
		}
	}
	expectNoAllot(t, 1, nil)
	for _, sizes := range [][]int{nil, {0}, {0, 0}, {5}, {3, 0, 4}, slices.Repeat([]int{api.MaxPieces}, api.MaxStrata)} {
		for _, n := range outside(0, sumOf(sizes)) {
			expectNoAllot(t, n, sizes)
		}
	}
	expectNoAllot(t, math.MaxInt, []int{math.MaxInt})
}

func TestAllotIsNew(t *testing.T) {
	sizes := []int{4, 4}
	got, _ := sample.Allot(8, sizes)
	got[0] = -1
	expectAllot(t, 8, sizes, []int{4, 4})
}
