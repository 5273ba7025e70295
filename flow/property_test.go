package flow_test

import (
	"math"
	"math/rand/v2"
	"reflect"
	"slices"
	"testing"

	"guilloche/api"
	"guilloche/flow"
)

func TestCheckAcceptsWhatSolveReturns(t *testing.T) {
	for _, w := range append(smallNetworks(), largeNetworks()...) {
		for _, want := range []int{0, 1, 5, 1 << 20, math.MaxInt} {
			f, err := w.solve(want)
			if err != api.OK {
				t.Fatalf("Solve of %v = %d", w.few(), err)
			}
			expectCheck(t, w, f, api.OK)
		}
	}
}

// Whatever potential Check accepts for a flow, no flow with the same value costs less.
func TestWhatCheckAcceptsIsCheapest(t *testing.T) {
	for i, w := range tinyNetworks() {
		if i%3 > 0 {
			continue
		}
		costs := w.leastCosts()
		for on := range w.flows() {
			value, _ := w.value(on)
			for p := range 125 {
				f := api.Flow{Value: value, Cost: w.cost(on), On: on, Potential: []int{p%5 - 2, p/5%5 - 2, p/25 - 2}}
				if w.check(f) == api.OK && f.Cost > costs[value] {
					t.Fatalf("Check of %v accepts %v, but there is the cost %d", w, f, costs[value])
				}
			}
		}
	}
}

func TestMaximumValueIsCapacityOfCut(t *testing.T) {
	for _, w := range append(smallNetworks(), largeNetworks()...) {
		f, _ := w.solve(math.MaxInt)
		value, cut, err := w.cut()
		if err != api.OK || f.Value != value || w.capacity(cut) != value || !cut[w.s] || cut[w.t] {
			t.Errorf("%v: the maximum value is %d; Cut = %d, %v, %d", w.few(), f.Value, value, cut, err)
		}
	}
}

// The closed sets of goods with two different lists of weights: what is in both, and what is in one of them, is closed.
func TestUnionsOfClosedSets(t *testing.T) {
	r := rand.New(rand.NewPCG(4, 8))
	for range 200 {
		weights, needs := randomGoods(r, 40, 60, 9)
		others, _ := randomGoods(r, 40, 0, 9)
		_, a, _ := flow.Close(weights, needs)
		_, b, _ := flow.Close(others, needs)
		one := make([]bool, len(a))
		for i := range one {
			one[i] = a[i] || b[i]
		}
		for _, set := range [][]bool{a, b, both(a, b), one} {
			if !isClosed(set, needs) {
				t.Errorf("%v is not closed under %v", set, needs)
			}
		}
	}
}

// Calls change no argument, and results are new memory.
func TestCallsLeaveEverythingAlone(t *testing.T) {
	r := rand.New(rand.NewPCG(4, 9))
	w := randomNetwork(r, 20, 90, 50, 50)
	arcs := slices.Clone(w.arcs)
	weights, needs := randomGoods(r, 20, 30, 9)
	oldWeights, oldNeeds := slices.Clone(weights), slices.Clone(needs)
	run := func() []any {
		f, _ := w.solve(30)
		given := copied(f)
		w.check(f)
		if !reflect.DeepEqual(f, given) {
			t.Error("Check changes the flow")
		}
		_, cut, _ := w.cut()
		partners, inLeft, inRight, _ := flow.Pair(20, 20, needs)
		_, set, _ := flow.Close(weights, needs)
		return []any{f.On, f.Potential, cut, partners, inLeft, inRight, set}
	}
	first, second := run(), run()
	for i, list := range first {
		if !reflect.DeepEqual(list, second[i]) {
			t.Errorf("the results %v and %v differ", list, second[i])
		}
		switch x := list.(type) {
		case []int:
			clear(x)
		case []bool:
			clear(x)
		}
	}
	if !reflect.DeepEqual(run(), second) {
		t.Error("results share memory")
	}
	if !slices.Equal(w.arcs, arcs) || !slices.Equal(weights, oldWeights) || !slices.Equal(needs, oldNeeds) {
		t.Error("an argument was changed")
	}
}
