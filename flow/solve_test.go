package flow_test

import (
	"math"
	"slices"
	"testing"

	"guilloche/api"
)

func TestSolveExample(t *testing.T) {
	w := network{4, []api.Arc{{From: 0, To: 1, Cap: 2, Cost: 1}, {From: 0, To: 2, Cap: 1, Cost: 4}, {From: 1, To: 3, Cap: 1, Cost: 1}, {From: 2, To: 3, Cap: 2, Cost: 1}, {From: 1, To: 2, Cap: 1, Cost: 1}}, 0, 3}
	for _, x := range []struct{ want, value, cost int }{{0, 0, 0}, {1, 1, 2}, {2, 2, 5}, {3, 3, 10}, {9, 3, 10}, {math.MaxInt, 3, 10}} {
		f, err := w.solve(x.want)
		checkFlow(t, w, f, err, x.value)
		if f.Cost != x.cost {
			t.Errorf("want %d: the cost is %d; not %d", x.want, f.Cost, x.cost)
		}
	}
}

// Small networks, against all their flows.
func TestSolveSmall(t *testing.T) {
	for _, w := range smallNetworks() {
		costs := w.leastCosts()
		most := len(costs) - 1
		for _, want := range []int{0, 1, 2, 3, most - 1, most, most + 1, api.MaxCap, math.MaxInt} {
			if want < 0 {
				continue
			}
			value := min(want, most)
			f, err := w.solve(want)
			checkFlow(t, w, f, err, value)
			if f.Cost != costs[value] {
				t.Fatalf("%v, want %d: the cost is %d; not %d", w, want, f.Cost, costs[value])
			}
		}
	}
}

// Large networks: the potential shows that the cost is the least one, and a cut of the same capacity that the value is the greatest one.
func TestSolveLarge(t *testing.T) {
	for _, w := range largeNetworks() {
		f, err := w.solve(math.MaxInt)
		most := w.capacity(w.beyond(f.On))
		checkFlow(t, w, f, err, most)
		for _, want := range []int{0, 1, most / 3, most - 1, most, most + 1} {
			if want >= 0 {
				f, err = w.solve(want)
				checkFlow(t, w, f, err, min(want, most))
			}
		}
	}
}

func TestSolveLimits(t *testing.T) {
	for _, x := range []struct {
		w           network
		value, cost int
	}{
		{line(), api.MaxCap, (api.MaxNodes - 1) * api.MaxCap * api.MaxCost},
		{strand(), api.MaxArcs * api.MaxCap, api.MaxArcs * api.MaxCap * api.MaxCost},
		{ladder(4), 16, 15 * 16},
		{ladder(24), 1 << 24, (1<<24 - 1) << 24},
		{network{2, nil, 0, 1}, 0, 0},
		{network{api.MaxNodes, nil, 99, 98}, 0, 0},
	} {
		f, err := x.w.solve(math.MaxInt)
		checkFlow(t, x.w, f, err, x.value)
		if f.Cost != x.cost {
			t.Errorf("%v: the cost is %d; not %d", x.w.few(), f.Cost, x.cost)
		}
	}
}

// Arcs that lead out of t or into s do not help, and those that take nothing may have any reduced cost.
func TestSolveIdleArcs(t *testing.T) {
	w := network{4, []api.Arc{{From: 1, To: 0, Cap: 5}, {From: 3, To: 1, Cap: 5, Cost: 1}, {From: 0, To: 1, Cap: 3, Cost: 7}, {From: 1, To: 3, Cap: 4, Cost: 2}, {From: 0, To: 3}, {From: 2, To: 3, Cap: 9}}, 0, 3}
	f, err := w.solve(9)
	checkFlow(t, w, f, err, 3)
	if want := []int{0, 0, 3, 3, 0, 0}; f.Cost != 27 || !slices.Equal(f.On, want) {
		t.Errorf("the flow is %v, %d; not %v, 27", f.On, f.Cost, want)
	}
}

func TestSolveErrors(t *testing.T) {
	for _, w := range badNetworks() {
		for _, want := range []int{math.MinInt, -1, 0, 1, math.MaxInt} { // ErrNetwork comes before ErrArg
			if f, err := w.solve(want); err != api.ErrNetwork || !isNothing(f) {
				t.Errorf("Solve of %v, %d = %v, %d", w.few(), want, f, err)
			}
		}
	}
	for _, w := range []network{line(), {n: 2, t: 1}} {
		for _, want := range []int{math.MinInt, -1} {
			if f, err := w.solve(want); err != api.ErrArg || !isNothing(f) {
				t.Errorf("Solve of %v, %d = %v, %d", w.few(), want, f, err)
			}
		}
	}
}
