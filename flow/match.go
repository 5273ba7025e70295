package flow

import (
	"guilloche/api"
)

// Pair returns a matching with as many pairs as possible: the right node of each left node, or -1. It also returns a vertex cover with as many nodes: which of the left nodes, and which of the right nodes, are in it.
func Pair(left, right int, pairs [][2]int) ([]int, []bool, []bool, api.Errno) {
	if !isFrom(0, left, api.MaxSide) || !isFrom(0, right, api.MaxSide) || !arePairs(left, right, pairs) {
		return nil, nil, nil, api.ErrArg
	}
	g := newGraph(left + right + 2)
	s, t := left+right, left+right+1
	for _, pair := range pairs {
		g.add(api.Arc{From: pair[0], To: left + pair[1], Cap: boundless})
	}
	for v := range left {
		g.add(api.Arc{From: s, To: v, Cap: 1})
	}
	for v := range right {
		g.add(api.Arc{From: left + v, To: t, Cap: 1})
	}
	g.fill(s, t)
	leftCover, rightCover := cover(left, right, g.reach(s))
	return partners(left, pairs, g.on()), leftCover, rightCover, api.OK
}

// partners returns the right node of each left node, or -1, if on says on which pairs something flows.
func partners(left int, pairs [][2]int, on []int) []int {
	out := make([]int, left)
	for v := range out {
		out[v] = -1
	}
	for i, pair := range pairs {
		if on[i] > 0 {
			out[pair[0]] = pair[1]
		}
	}
	return out
}

// cover returns the nodes whose arcs from the source or to the sink lead out of the smallest cut. No pair leads out of it, so that one of these arcs is beside each pair.
func cover(left, right int, cut []bool) ([]bool, []bool) {
	inLeft, inRight := make([]bool, left), make([]bool, right)
	for v := range left {
		inLeft[v] = !cut[v]
	}
	for v := range right {
		inRight[v] = cut[left+v]
	}
	return inLeft, inRight
}
