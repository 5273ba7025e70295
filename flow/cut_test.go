package flow_test

import (
	"math"
	"math/rand/v2"
	"slices"
	"testing"

	"guilloche/api"
)

// leastCut returns the least capacity of a cut, and what is in all cuts with this capacity.
func (w network) leastCut() (int, []bool) {
	least, smallest := math.MaxInt, []bool(nil)
	for set := range 1 << w.n {
		cut := members(set, w.n)
		if !cut[w.s] || cut[w.t] {
			continue
		}
		switch capacity := w.capacity(cut); {
		case capacity < least:
			least, smallest = capacity, cut
		case capacity == least:
			smallest = both(smallest, cut)
		}
	}
	return least, smallest
}

// members returns the elements of a set that is given as a binary number.
func members(set, n int) []bool {
	out := make([]bool, n)
	for i := range out {
		out[i] = set>>i&1 == 1
	}
	return out
}

func both(a, b []bool) []bool {
	out := make([]bool, len(a))
	for i := range out {
		out[i] = a[i] && b[i]
	}
	return out
}

func expectCut(t *testing.T, w network, wantValue int, want []bool) {
	t.Helper()
	value, cut, err := w.cut()
	if value != wantValue || !slices.Equal(cut, want) || err != api.OK {
		t.Errorf("Cut of %v = %d, %v, %d; not %d, %v", w.few(), value, cut, err, wantValue, want)
	}
}

// Small networks, against all their cuts.
func TestCutSmall(t *testing.T) {
	r := rand.New(rand.NewPCG(4, 4))
	list := smallNetworks()
	for n := 4; n <= 9; n++ {
		for m := n; m < 5*n; m += 2 {
			for _, maxCap := range []int{1, 3, api.MaxCap} {
				list = append(list, randomNetwork(r, n, m, maxCap, 5))
			}
		}
	}
	for _, w := range list {
		value, cut := w.leastCut()
		expectCut(t, w, value, cut)
	}
}

// Large networks: a flow with the value of the cut shows that no cut is less, and that no cut of this capacity is smaller.
func TestCutLarge(t *testing.T) {
	for _, w := range largeNetworks() {
		f, err := w.solve(math.MaxInt)
		checkFlow(t, w, f, err, f.Value)
		expectCut(t, w, f.Value, w.beyond(f.On))
	}
}

func TestCutLimits(t *testing.T) {
	expectCut(t, line(), api.MaxCap, members(1, api.MaxNodes))
	expectCut(t, strand(), api.MaxArcs*api.MaxCap, []bool{false, true})
	expectCut(t, network{2, nil, 1, 0}, 0, []bool{false, true})
	// A node that does not lead to t is in the cut only if it can be reached.
	w := network{5, []api.Arc{{From: 0, To: 1, Cap: 2}, {From: 1, To: 4, Cap: 1}, {From: 1, To: 2, Cap: 1}, {From: 3, To: 4, Cap: 1}, {From: 4, To: 3, Cap: 1}}, 0, 4}
	expectCut(t, w, 1, []bool{true, true, true, false, false})
}

// An arc that takes 1 joins two paths that take very much. A path over this arc moves but 1, so that a search must not always find one.
func TestCutBypass(t *testing.T) {
	arcs := []api.Arc{{From: 0, To: 1, Cap: api.MaxCap}, {From: 0, To: 2, Cap: api.MaxCap}, {From: 1, To: 2, Cap: 1}, {From: 2, To: 1, Cap: 1}, {From: 1, To: 3, Cap: api.MaxCap}, {From: 2, To: 3, Cap: api.MaxCap}}
	r := rand.New(rand.NewPCG(4, 11))
	for range 200 {
		r.Shuffle(len(arcs), func(i, k int) { arcs[i], arcs[k] = arcs[k], arcs[i] })
		expectCut(t, network{4, arcs, 0, 3}, 2*api.MaxCap, []bool{true, false, false, false})
	}
}

func TestCutErrors(t *testing.T) {
	for _, w := range badNetworks() {
		if value, cut, err := w.cut(); value != 0 || len(cut) != 0 || err != api.ErrNetwork {
			t.Errorf("Cut of %v = %d, %v, %d", w.few(), value, cut, err)
		}
	}
}
