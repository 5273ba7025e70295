package flow_test

import (
	"math"
	"math/rand/v2"
	"slices"
	"testing"

	"guilloche/api"
)

// verdict returns what Check has to return for a valid network.
func (w network) verdict(f api.Flow) api.Errno {
	if value, ok := w.value(f.On); !ok || value < 0 || value != f.Value {
		return api.ErrFlow
	}
	if w.cost(f.On) != f.Cost || !w.isCertified(f.On, f.Potential) {
		return api.ErrCost
	}
	return api.OK
}

func expectCheck(t *testing.T, w network, f api.Flow, want api.Errno) {
	t.Helper()
	if err := w.check(f); err != want {
		t.Errorf("Check of %v, value %d, cost %d, on %v, potential %v = %d; not %d", w.few(), f.Value, f.Cost, f.On[:min(10, len(f.On))], f.Potential[:min(10, len(f.Potential))], err, want)
	}
}

// Small networks with all numbers on their arcs, and too small or too great ones, and all small potentials.
func TestCheckSmall(t *testing.T) {
	seen := map[api.Errno]int{}
	for i, w := range tinyNetworks() {
		if i%5 > 0 {
			continue
		}
		for on := range w.numbers(1) {
			for p := range 27 {
				f := api.Flow{Value: w.outOf(w.s, on), Cost: w.cost(on), On: on, Potential: []int{p%3 - 1, p/3%3 - 1, p/9 - 1}}
				want := w.verdict(f)
				seen[want]++
				expectCheck(t, w, f, want)
			}
		}
	}
	if seen[api.OK] == 0 || seen[api.ErrFlow] == 0 || seen[api.ErrCost] == 0 {
		t.Errorf("the tests have the results %v", seen)
	}
}

// A right flow with one wrong number.
func TestCheckOneWrongNumber(t *testing.T) {
	r := rand.New(rand.NewPCG(4, 3))
	for _, w := range append(smallNetworks()[1200:], largeNetworks()...) {
		f, err := w.solve(1 + r.IntN(9))
		checkFlow(t, w, f, err, f.Value)
		expectCheck(t, w, f, api.OK)
		for _, by := range []int{1, -1, 1 << 40, math.MinInt} {
			bad := copied(f)
			bad.Value += by
			expectCheck(t, w, bad, api.ErrFlow)
			bad = copied(f)
			bad.Cost += by
			expectCheck(t, w, bad, api.ErrCost)
			if len(f.On) > 0 {
				bad = copied(f)
				bad.On[r.IntN(len(f.On))] += by
				expectCheck(t, w, bad, w.verdict(bad))
			}
			bad = copied(f)
			bad.Potential[r.IntN(w.n)] += by
			expectCheck(t, w, bad, w.verdict(bad))
		}
	}
}

func copied(f api.Flow) api.Flow {
	f.On, f.Potential = slices.Clone(f.On), slices.Clone(f.Potential)
	return f
}

func TestCheckLengths(t *testing.T) {
	w := network{3, []api.Arc{{From: 0, To: 1, Cap: 1}, {From: 1, To: 2, Cap: 1}}, 0, 2}
	good := api.Flow{Value: 1, On: []int{1, 1}, Potential: []int{0, 0, 0}}
	expectCheck(t, w, good, api.OK)
	for _, on := range [][]int{nil, {}, {1}, {1, 1, 0}, make([]int, 2000)} {
		bad := copied(good)
		bad.On = on
		expectCheck(t, w, bad, api.ErrFlow)
	}
	for _, potential := range [][]int{nil, {}, {0, 0}, {0, 0, 0, 0}, make([]int, 2000)} {
		bad := copied(good)
		bad.Potential = potential
		expectCheck(t, w, bad, api.ErrCost)
	}
	empty := network{2, nil, 0, 1}
	expectCheck(t, empty, api.Flow{Potential: []int{5, -5}}, api.OK)
	expectCheck(t, empty, api.Flow{On: []int{}, Potential: []int{5, -5}}, api.OK)
	expectCheck(t, empty, api.Flow{}, api.ErrCost)
	expectCheck(t, empty, api.Flow{On: []int{0}}, api.ErrFlow)
}

// A flow that goes from t to s has a negative value and is none, even if all numbers fit. Nothing may be lost at a node.
func TestCheckFlows(t *testing.T) {
	w := network{3, []api.Arc{{From: 0, To: 1, Cap: 4}, {From: 1, To: 2, Cap: 4}, {From: 2, To: 0, Cap: 4}}, 0, 2}
	none := []int{0, 0, 0}
	expectCheck(t, w, api.Flow{Value: 0, On: []int{0, 0, 0}, Potential: none}, api.OK)
	expectCheck(t, w, api.Flow{Value: 0, On: []int{2, 2, 2}, Potential: none}, api.OK)
	expectCheck(t, w, api.Flow{Value: 1, On: []int{3, 3, 2}, Potential: none}, api.OK)
	expectCheck(t, w, api.Flow{Value: 3, On: []int{3, 3, 2}, Potential: none}, api.ErrFlow)
	expectCheck(t, w, api.Flow{Value: -1, On: []int{1, 1, 2}, Potential: none}, api.ErrFlow)
	expectCheck(t, w, api.Flow{Value: 0, On: []int{1, 1, 2}, Potential: none}, api.ErrFlow)
	expectCheck(t, w, api.Flow{Value: 1, On: []int{1, 1, 2}, Potential: none}, api.ErrFlow)
	expectCheck(t, w, api.Flow{Value: 2, On: []int{2, 1, 0}, Potential: none}, api.ErrFlow)
	expectCheck(t, w, api.Flow{Value: 1, On: []int{1, 2, 0}, Potential: none}, api.ErrFlow)
	expectCheck(t, w, api.Flow{Value: 5, On: []int{5, 5, 0}, Potential: none}, api.ErrFlow)
	expectCheck(t, w, api.Flow{Value: 1, On: []int{0, 0, -1}, Potential: none}, api.ErrFlow)
	expectCheck(t, w, api.Flow{Value: math.MaxInt, On: []int{math.MaxInt, math.MaxInt, 0}, Potential: none}, api.ErrFlow)
	expectCheck(t, w, api.Flow{Value: 0, On: []int{math.MinInt, math.MinInt, math.MinInt}, Potential: none}, api.ErrFlow)
}

func TestCheckPotentials(t *testing.T) {
	const most = 1 << 40
	// A full arc may be as cheap, an empty one as expensive, and one without a capacity both, as it likes.
	w := network{4, []api.Arc{{From: 0, To: 1, Cap: 1, Cost: 3}, {From: 1, To: 0, Cap: 1, Cost: 3}, {From: 2, To: 3}, {From: 3, To: 2}}, 0, 1}
	potential := func(p ...int) api.Flow {
		return api.Flow{Value: 1, Cost: 3, On: []int{1, 0, 0, 0}, Potential: p}
	}
	expectCheck(t, w, potential(0, 3, 0, 0), api.OK)
	expectCheck(t, w, potential(0, 2, 0, 0), api.ErrCost)
	expectCheck(t, w, potential(-most, most, most, -most), api.OK)
	expectCheck(t, w, potential(most, -most, 0, 0), api.ErrCost)
	for _, bad := range []int{most + 1, -most - 1, math.MaxInt, math.MinInt} {
		for at := range 4 {
			f := potential(0, 3, 0, 0)
			f.Potential[at] = bad
			expectCheck(t, w, f, api.ErrCost)
		}
	}
	// What is neither empty nor full has the reduced cost 0.
	w.arcs[0].Cap = 2
	expectCheck(t, w, potential(10, 13, 0, 0), api.OK)
	expectCheck(t, w, potential(10, 12, 0, 0), api.ErrCost)
	expectCheck(t, w, potential(10, 14, 0, 0), api.ErrCost)
	// A circle that costs something is a flow, but never has a certificate.
	circle := api.Flow{Cost: 6, On: []int{1, 1, 0, 0}, Potential: []int{0, 3, 0, 0}}
	expectCheck(t, w, circle, api.ErrCost)
}

func TestCheckOrderOfErrors(t *testing.T) {
	for _, w := range badNetworks() {
		expectCheck(t, w, api.Flow{}, api.ErrNetwork)
		expectCheck(t, w, api.Flow{Value: -1, Cost: -1, On: make([]int, len(w.arcs)), Potential: []int{0, 0, 0}}, api.ErrNetwork)
		expectCheck(t, w, api.Flow{On: make([]int, len(w.arcs)), Potential: []int{0, 0, 0}}, api.ErrNetwork)
	}
	w := network{3, []api.Arc{{From: 0, To: 1, Cap: 1, Cost: 1}, {From: 1, To: 2, Cap: 1, Cost: 1}}, 0, 2}
	expectCheck(t, w, api.Flow{Value: 1, Cost: 5, On: []int{1, 0}}, api.ErrFlow)
	expectCheck(t, w, api.Flow{Value: 2, Cost: 5, On: []int{1, 1}, Potential: []int{9}}, api.ErrFlow)
	expectCheck(t, w, api.Flow{Value: 1, Cost: 5, On: []int{1, 1}, Potential: []int{9}}, api.ErrCost)
	expectCheck(t, w, api.Flow{Value: 1, Cost: 5, On: []int{1, 1}, Potential: []int{0, 1, 2}}, api.ErrCost)
	expectCheck(t, w, api.Flow{Value: 1, Cost: 2, On: []int{1, 1}, Potential: []int{0, 1, 2}}, api.OK)
}
