package flow

import (
	"math/rand/v2"
	"testing"

	"guilloche/api"
)

// However many searches there are, the potential does not grow beyond the costs of paths.
func TestPotentialIsSmall(t *testing.T) {
	r := rand.New(rand.NewPCG(4, 12))
	for _, n := range []int{2, 10, api.MaxNodes} {
		for range 10 {
			g := newGraph(n)
			for range api.MaxArcs {
				v := r.IntN(n)
				g.add(api.Arc{From: v, To: (v + 1 + r.IntN(n-1)) % n, Cap: r.IntN(api.MaxCap), Cost: r.IntN(api.MaxCost)})
			}
			g.add(api.Arc{From: 1, To: 0, Cap: maxValue, Cost: -maxPath})
			g.circulate()
			for v, x := range g.potential {
				if !isFrom(-2*maxPath, x, 0) || g.surplus[v] != 0 {
					t.Fatalf("node %d has the potential %d and the surplus %d", v, x, g.surplus[v])
				}
			}
		}
	}
}
