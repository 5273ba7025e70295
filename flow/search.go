package flow

import (
	"math"
)

const (
	start     = -1          // instead of an edge: a path begins here
	unreached = math.MaxInt // how far a node is to which no path is known
)

// arrival is a path from a node with a surplus to node: its last edge, the sum of its prices, and the number of its edges.
type arrival struct {
	node, over, far, steps int
}

// settle sends surpluses to where something is missing, each time on a cheapest path, as long as there is one.
func (g *graph) settle() {
	for path := g.search(); len(path) > 0; path = g.search() {
		amount := g.room(path)
		for _, i := range path {
			g.send(i, amount)
		}
	}
}

// room returns how much can be sent on a path, whose last edge comes first.
func (g *graph) room(path []int) int {
	first, last := g.edges[path[len(path)-1]], g.edges[path[0]]
	amount := min(g.surplus[first.From], -g.surplus[last.To])
	for _, i := range path {
		amount = min(amount, g.edges[i].left)
	}
	return amount
}

// search returns a cheapest path from a node with a surplus to one where something is missing, its last edge first, or nothing if there is none. It raises the potential, so that no price becomes negative after something is sent on the path.
// Among the cheapest paths it takes one with the fewest edges. If there are no costs, the paths therefore never become shorter from search to search, and there are at most as many searches as nodes times edges, whatever the capacities are.
func (g *graph) search() []int {
	closer := func(a, b arrival) bool { return a.far < b.far || a.far == b.far && a.steps < b.steps }
	waiting := newQueue(closer)
	best := g.starts()
	for _, a := range best {
		if a.far != unreached {
			waiting.push(a)
		}
	}
	var end arrival
search:
	for {
		at, ok := waiting.pop()
		switch {
		case !ok:
			return nil
		case at != best[at.node]: // A closer arrival was found after this one.
			continue
		case g.surplus[at.node] < 0:
			end = at
			break search
		}
		for _, i := range g.out[at.node] {
			e := g.edges[i]
			next := arrival{e.To, i, at.far + g.price(e), at.steps + 1}
			if e.left > 0 && closer(next, best[e.To]) {
				best[e.To] = next
				waiting.push(next)
			}
		}
	}
	g.raise(best, end.far)
	return g.path(best, end)
}

// starts returns the best arrivals at all nodes before a search.
func (g *graph) starts() []arrival {
	best := make([]arrival, len(g.out))
	for v := range best {
		best[v] = arrival{node: v, over: start, far: unreached}
		if g.surplus[v] > 0 {
			best[v].far = 0
		}
	}
	return best
}

// raise adds to the potential of each node how far it is, but at most the distance of the end of the search. Beyond that, best is not final.
func (g *graph) raise(best []arrival, most int) {
	for v, a := range best {
		g.potential[v] += min(a.far, most)
	}
}

func (g *graph) path(best []arrival, end arrival) []int {
	var out []int
	for a := end; a.over != start; a = best[g.edges[a.over].From] {
		out = append(out, a.over)
	}
	return out
}
