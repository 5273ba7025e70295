package flow

import (
	"guilloche/api"
)

// Close returns the greatest sum of the weights of a closed set, and the smallest closed set with this sum.
func Close(weights []int, needs [][2]int) (int, []bool, api.Errno) {
	n := len(weights)
	if n > api.MaxGoods || !areFrom(-api.MaxCap, weights, api.MaxCap) || !arePairs(n, n, needs) {
		return 0, nil, api.ErrArg
	}
	// A cut has the capacity of the positive weights outside it and the negative ones in it, if it is closed; otherwise a need leads out of it.
	g := newGraph(n + 2)
	s, t := n, n+1
	most := 0
	for i, weight := range weights {
		if weight > 0 {
			g.add(api.Arc{From: s, To: i, Cap: weight})
			most += weight
		} else {
			g.add(api.Arc{From: i, To: t, Cap: -weight})
		}
	}
	for _, need := range needs {
		g.add(api.Arc{From: need[0], To: need[1], Cap: boundless})
	}
	lost := g.fill(s, t)
	return most - lost, g.reach(s)[:n], api.OK
}
