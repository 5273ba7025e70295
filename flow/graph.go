package flow

import (
	"math/bits"

	"guilloche/api"
)

// boundless is more than all that flows through a graph.
const boundless = 1 << 50

// edge is a way over an arc, or back over it, and what can still be sent on this way.
type edge struct {
	api.Arc
	left int
}

// graph is a network and what flows on it.
type graph struct {
	edges     []edge  // the ways over the arcs, each one followed by the way back
	out       [][]int // per node, the edges out of it
	surplus   []int   // per node, what is to be sent away from it or, if negative, to it
	potential []int
}

func newGraph(n int) *graph {
	return &graph{out: make([][]int, n), surplus: make([]int, n), potential: make([]int, n)}
}

// add adds an arc. Nothing can be sent over it as yet.
func (g *graph) add(arc api.Arc) {
	back := api.Arc{From: arc.To, To: arc.From, Cost: -arc.Cost}
	for _, way := range []api.Arc{arc, back} {
		g.out[way.From] = append(g.out[way.From], len(g.edges))
		g.edges = append(g.edges, edge{Arc: way})
	}
}

// on returns what flows on each arc, which is what can be sent back.
func (g *graph) on() []int {
	out := make([]int, len(g.edges)/2)
	for i := range out {
		out[i] = g.edges[2*i+1].left
	}
	return out
}

// reach returns the nodes to which something can still be sent from s.
func (g *graph) reach(s int) []bool {
	reached := make([]bool, len(g.out))
	reached[s] = true
	for todo := []int{s}; len(todo) > 0; {
		v := todo[0]
		todo = todo[1:]
		for _, i := range g.out[v] {
			if e := g.edges[i]; e.left > 0 && !reached[e.To] {
				reached[e.To] = true
				todo = append(todo, e.To)
			}
		}
	}
	return reached
}

// fill sends as much as possible from s to t over arcs without costs, and returns how much it is.
func (g *graph) fill(s, t int) int {
	for i := range g.edges {
		g.edges[i].left = g.edges[i].Cap
	}
	g.surplus[s], g.surplus[t] = boundless, -boundless
	g.settle()
	return boundless - g.surplus[s]
}

// circulate makes what flows a circulation of the least cost, with a potential that certifies it.
// It reads the capacities as binary numbers. What had the least cost for their highest bits has it also when both are doubled; then one more bit adds 1 to some of the capacities, so that there are no more searches per bit than arcs, whatever the costs are.
func (g *graph) circulate() {
	for bit := g.capBits() - 1; bit >= 0; bit-- {
		for i := range g.edges {
			e := &g.edges[i]
			e.left = 2*e.left + e.Cap>>bit&1
		}
		g.saturate()
		g.settle()
		g.assess()
	}
}

// capBits returns the number of binary digits of the greatest capacity.
func (g *graph) capBits() int {
	most := 0
	for _, e := range g.edges {
		most = max(most, e.Cap)
	}
	return bits.Len(uint(most))
}

// price returns what it costs to send 1 over an edge, if the potential is the price at each node. The potential certifies what flows if no price is negative where something can be sent.
func (g *graph) price(e edge) int {
	return e.Cost + g.potential[e.From] - g.potential[e.To]
}

// saturate sends over edges with a negative price all that they can take. Some nodes get a surplus, which settle sends on.
func (g *graph) saturate() {
	for i, e := range g.edges {
		if g.price(e) < 0 {
			g.send(i, e.left)
		}
	}
}

// assess computes the potential anew, so that it does not grow from bit to bit: for each node, the least cost of a path to it, from wherever. It goes over all edges as often as such a path has edges at the most.
func (g *graph) assess() {
	clear(g.potential)
	for range g.out {
		for _, e := range g.edges {
			if e.left > 0 {
				g.potential[e.To] = min(g.potential[e.To], g.potential[e.From]+e.Cost)
			}
		}
	}
}

// send sends an amount over edge i.
func (g *graph) send(i, amount int) {
	e := &g.edges[i]
	e.left -= amount
	g.edges[i^1].left += amount
	g.surplus[e.From] -= amount
	g.surplus[e.To] += amount
}
