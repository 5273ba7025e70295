package flow_test

import (
	"iter"
	"math"
	"math/rand/v2"
	"slices"
	"testing"

	"guilloche/api"
	"guilloche/flow"
)

// network is what the functions receive. The tests compute what they expect of small networks by going through all flows and cuts; for large ones they check the certificates themselves.
type network struct {
	n    int
	arcs []api.Arc
	s, t int
}

func (w network) solve(want int) (api.Flow, api.Errno) {
	return flow.Solve(w.n, w.arcs, w.s, w.t, want)
}

func (w network) check(f api.Flow) api.Errno { return flow.Check(w.n, w.arcs, w.s, w.t, f) }

func (w network) cut() (int, []bool, api.Errno) { return flow.Cut(w.n, w.arcs, w.s, w.t) }

// randomNetwork returns a valid network with m arcs.
func randomNetwork(r *rand.Rand, n, m, maxCap, maxCost int) network {
	w := network{n: n}
	w.s, w.t = twoOf(r, n)
	for range m {
		arc := api.Arc{Cap: r.IntN(maxCap + 1), Cost: r.IntN(maxCost + 1)}
		arc.From, arc.To = twoOf(r, n)
		w.arcs = append(w.arcs, arc)
	}
	return w
}

// twoOf returns two different nodes.
func twoOf(r *rand.Rand, n int) (int, int) {
	a, b := r.IntN(n), r.IntN(n-1)
	if b >= a {
		b++
	}
	return a, b
}

// smallNetworks returns networks that have few flows.
func smallNetworks() []network {
	r := rand.New(rand.NewPCG(4, 1))
	out := tinyNetworks()
	for n := 2; n <= 5; n++ {
		for m := range 7 {
			for range 40 {
				out = append(out, randomNetwork(r, n, m, 2, 3))
			}
		}
	}
	return out
}

// tinyNetworks returns all networks with three nodes and two arcs, with small capacities and costs.
func tinyNetworks() []network {
	arcs := tinyArcs()
	var out []network
	for _, a := range arcs {
		for _, b := range arcs {
			out = append(out, network{3, []api.Arc{a, b}, 0, 2})
		}
	}
	return out
}

func tinyArcs() []api.Arc {
	var out []api.Arc
	for i := range 36 {
		arc := api.Arc{From: i % 3, To: (i%3 + 1 + i/3%2) % 3, Cap: i / 6 % 3, Cost: i / 18}
		out = append(out, arc)
	}
	return out
}

// largeNetworks returns networks up to all limits.
func largeNetworks() []network {
	r := rand.New(rand.NewPCG(4, 2))
	out := []network{line(), strand(), ladder(24)}
	for _, n := range []int{2, 3, 11, 40, api.MaxNodes} {
		for _, m := range []int{2 * n, api.MaxArcs} {
			for _, maxCap := range []int{1, 9, api.MaxCap} {
				for _, maxCost := range []int{0, 2, api.MaxCost} {
					out = append(out, randomNetwork(r, n, min(m, api.MaxArcs), maxCap, maxCost))
				}
			}
		}
	}
	return out
}

// line returns the network with the longest and most expensive path.
func line() network {
	w := network{n: api.MaxNodes, t: api.MaxNodes - 1}
	for v := range w.t {
		w.arcs = append(w.arcs, api.Arc{From: v, To: v + 1, Cap: api.MaxCap, Cost: api.MaxCost})
	}
	return w
}

// strand returns the network with the greatest value and the greatest cost.
func strand() network {
	arc := api.Arc{From: 1, To: 0, Cap: api.MaxCap, Cost: api.MaxCost}
	return network{2, slices.Repeat([]api.Arc{arc}, api.MaxArcs), 1, 0}
}

// ladder returns a network on which the cheapest paths, one after the other, all have different costs, and each one takes but 1. There are 2^rungs of them, too many to go through with 24 rungs. (Each rung first lets the inner ladder be filled, and then lets it be emptied again.)
func ladder(rungs int) network {
	w := network{n: 2, arcs: []api.Arc{{From: 0, To: 1, Cap: 1}}, s: 0, t: 1}
	value, longest := 1, 0
	for range rungs {
		cost := longest + 1
		s, t := w.n, w.n+1
		w.n += 2
		w.join(api.Arc{From: s, To: w.s, Cap: value})
		w.join(api.Arc{From: w.t, To: t, Cap: value})
		w.join(api.Arc{From: s, To: w.t, Cap: value, Cost: cost})
		w.join(api.Arc{From: w.s, To: t, Cap: value, Cost: cost})
		w.s, w.t = s, t
		value, longest = 2*value, 2*cost
	}
	return w
}

// join adds an arc, or if it is too expensive a path of new nodes instead.
func (w *network) join(arc api.Arc) {
	for ; arc.Cost > api.MaxCost; w.n++ {
		w.arcs = append(w.arcs, api.Arc{From: arc.From, To: w.n, Cap: arc.Cap, Cost: api.MaxCost})
		arc.From, arc.Cost = w.n, arc.Cost-api.MaxCost
	}
	w.arcs = append(w.arcs, arc)
}

// flows visits all flows.
func (w network) flows() iter.Seq[[]int] {
	return func(yield func([]int) bool) {
		for on := range w.numbers(0) {
			if value, ok := w.value(on); ok && value >= 0 && !yield(on) {
				return
			}
		}
	}
}

// numbers visits all lists with a number for each arc, from -beyond to Cap + beyond.
func (w network) numbers(beyond int) iter.Seq[[]int] {
	return func(yield func([]int) bool) {
		on := slices.Repeat([]int{-beyond}, len(w.arcs))
		for yield(slices.Clone(on)) {
			i := 0
			for ; i < len(on) && on[i] == w.arcs[i].Cap+beyond; i++ {
				on[i] = -beyond
			}
			if i == len(on) {
				return
			}
			on[i]++
		}
	}
}

// value returns how much goes out of s, and whether on is within the capacities and nothing is lost at other nodes than s and t. It may be negative.
func (w network) value(on []int) (int, bool) {
	if len(on) != len(w.arcs) {
		return 0, false
	}
	for i, arc := range w.arcs {
		if on[i] < 0 || on[i] > arc.Cap {
			return 0, false
		}
	}
	for v := range w.n {
		if v != w.s && v != w.t && w.outOf(v, on) != 0 {
			return 0, false
		}
	}
	return w.outOf(w.s, on), true
}

func (w network) outOf(v int, on []int) int {
	sum := 0
	for i, arc := range w.arcs {
		switch v {
		case arc.From:
			sum += on[i]
		case arc.To:
			sum -= on[i]
		}
	}
	return sum
}

func (w network) cost(on []int) int {
	sum := 0
	for i, arc := range w.arcs {
		sum += arc.Cost * on[i]
	}
	return sum
}

// isCertified reports whether the potential is one and certifies on.
func (w network) isCertified(on, potential []int) bool {
	if len(potential) != w.n || slices.Max(potential) > 1<<40 || slices.Min(potential) < -(1<<40) {
		return false
	}
	for i, arc := range w.arcs {
		d := arc.Cost + potential[arc.From] - potential[arc.To]
		if on[i] < arc.Cap && d < 0 {
			return false
		}
		if on[i] > 0 && d > 0 {
			return false
		}
	}
	return true
}

// leastCosts returns the least cost of a flow for each value from 0 to the maximum value.
func (w network) leastCosts() []int {
	var out []int
	for on := range w.flows() {
		value, _ := w.value(on)
		for len(out) <= value {
			out = append(out, math.MaxInt)
		}
		out[value] = min(out[value], w.cost(on))
	}
	return out
}

func (w network) capacity(cut []bool) int {
	sum := 0
	for _, arc := range w.arcs {
		if cut[arc.From] && !cut[arc.To] {
			sum += arc.Cap
		}
	}
	return sum
}

// beyond returns the nodes to which more could be sent from s. If t is not among them, they are the smallest cut.
func (w network) beyond(on []int) []bool {
	out := make([]bool, w.n)
	out[w.s] = true
	for range w.n {
		for i, arc := range w.arcs {
			if out[arc.From] && on[i] < arc.Cap {
				out[arc.To] = true
			}
			if out[arc.To] && on[i] > 0 {
				out[arc.From] = true
			}
		}
	}
	return out
}

// badNetworks returns networks that are not valid.
func badNetworks() []network {
	good := network{3, []api.Arc{{From: 0, To: 1, Cap: 1, Cost: 1}, {From: 1, To: 2, Cap: 1, Cost: 1}}, 0, 2}
	var out []network
	for _, n := range []int{math.MinInt, -1, 0, 1, api.MaxNodes + 1, math.MaxInt} {
		out = append(out, network{n, good.arcs, 0, 2}, network{n, nil, 0, n - 1})
	}
	out = append(out, network{2, good.arcs, 0, 1}, network{2, nil, 0, 2})
	for _, v := range []int{math.MinInt, -1, 3, math.MaxInt} {
		out = append(out, network{3, good.arcs, v, 2}, network{3, good.arcs, 0, v}, network{3, nil, v, 2}, network{3, nil, 0, v})
		out = append(out, good.with(api.Arc{From: v, To: 1}), good.with(api.Arc{From: 1, To: v}))
	}
	out = append(out, network{3, good.arcs, 0, 0}, network{3, nil, 2, 2}, network{3, nil, 7, 7})
	out = append(out, good.with(api.Arc{From: 1, To: 1}), good.with(api.Arc{From: 0, To: 0, Cap: 1}))
	for _, bad := range []int{math.MinInt, -1, math.MaxInt} {
		out = append(out, good.with(api.Arc{To: 1, Cap: bad}), good.with(api.Arc{To: 1, Cost: bad}))
	}
	out = append(out, good.with(api.Arc{To: 1, Cap: api.MaxCap + 1}), good.with(api.Arc{To: 1, Cost: api.MaxCost + 1}))
	tooMany := slices.Repeat(good.arcs, api.MaxArcs/2+1)
	return append(out, network{3, tooMany, 0, 2}, network{3, tooMany[:api.MaxArcs+1], 0, 2})
}

// with returns the network with one more arc, which comes first or last.
func (w network) with(arc api.Arc) network {
	if arc.From < arc.To {
		return network{w.n, append([]api.Arc{arc}, w.arcs...), w.s, w.t}
	}
	return network{w.n, append(slices.Clone(w.arcs), arc), w.s, w.t}
}

func isNothing(f api.Flow) bool {
	return f.Value == 0 && f.Cost == 0 && len(f.On) == 0 && len(f.Potential) == 0
}

// checkFlow checks that f is a flow of the network with a certificate, and has that value.
func checkFlow(t *testing.T, w network, f api.Flow, err api.Errno, value int) {
	t.Helper()
	got, ok := w.value(f.On)
	switch {
	case err != api.OK:
		t.Errorf("%v: %d", w.few(), err)
	case !ok || got != value || f.Value != value:
		t.Errorf("%v: the flow has the value %d, %v, and says %d; not %d", w.few(), got, ok, f.Value, value)
	case f.Cost != w.cost(f.On):
		t.Errorf("%v: the cost is %d; not %d", w.few(), f.Cost, w.cost(f.On))
	case !w.isCertified(f.On, f.Potential):
		t.Errorf("%v: the potential certifies nothing", w.few())
	}
}

// few returns the network with its first arcs, to be printed.
func (w network) few() network {
	return network{w.n, w.arcs[:min(len(w.arcs), 10)], w.s, w.t}
}
