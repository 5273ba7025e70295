package flow

import (
	"guilloche/api"
)

// maxPotential is the greatest absolute value in a potential.
const maxPotential = 1 << 40

// Check returns OK if f is a flow with a potential that certifies it.
func Check(n int, arcs []api.Arc, s, t int, f api.Flow) api.Errno {
	switch {
	case !isNetwork(n, arcs, s, t):
		return api.ErrNetwork
	case !isWithinCaps(arcs, f.On) || !hasValue(n, arcs, s, t, f):
		return api.ErrFlow
	case f.Cost != costOf(arcs, f.On) || !isPotential(n, f.Potential) || !certifies(arcs, f):
		return api.ErrCost
	}
	return api.OK
}

// isWithinCaps reports whether there is a number on each arc that it can take.
func isWithinCaps(arcs []api.Arc, on []int) bool {
	if len(on) != len(arcs) {
		return false
	}
	for i, arc := range arcs {
		if !isFrom(0, on[i], arc.Cap) {
			return false
		}
	}
	return true
}

// hasValue reports whether exactly the value of f, which must not be negative, goes from s to t, and nothing is lost on the way.
func hasValue(n int, arcs []api.Arc, s, t int, f api.Flow) bool {
	out := make([]int, n) // what goes out of a node minus what goes into it
	for i, arc := range arcs {
		out[arc.From] += f.On[i]
		out[arc.To] -= f.On[i]
	}
	for v, sum := range out {
		if v != s && v != t && sum != 0 {
			return false
		}
	}
	return f.Value >= 0 && f.Value == out[s]
}

func costOf(arcs []api.Arc, on []int) int {
	cost := 0
	for i, arc := range arcs {
		cost += on[i] * arc.Cost
	}
	return cost
}

func isPotential(n int, list []int) bool {
	return len(list) == n && areFrom(-maxPotential, list, maxPotential)
}

// certifies reports whether the potential of f certifies it.
func certifies(arcs []api.Arc, f api.Flow) bool {
	for i, arc := range arcs {
		d := arc.Cost + f.Potential[arc.From] - f.Potential[arc.To]
		if d < 0 && f.On[i] < arc.Cap || d > 0 && f.On[i] > 0 {
			return false
		}
	}
	return true
}
