package flow

import (
	"math/rand/v2"
	"slices"
	"testing"
)

func TestQueue(t *testing.T) {
	r := rand.New(rand.NewPCG(4, 10))
	for n := range 60 {
		q := newQueue(func(a, b int) bool { return a > b })
		var model []int
		for range 4 * n {
			if r.IntN(3) > 0 {
				x := r.IntN(n)
				q.push(x)
				model = append(model, x)
				slices.Sort(model)
			} else {
				expectPop(t, q, &model)
			}
		}
		for range len(model) + 1 {
			expectPop(t, q, &model)
		}
	}
}

// expectPop takes the last one of the sorted elements out of the queue.
func expectPop(t *testing.T, q *queue[int], model *[]int) {
	t.Helper()
	want, some := 0, len(*model) > 0
	if some {
		want = (*model)[len(*model)-1]
		*model = (*model)[:len(*model)-1]
	}
	if x, ok := q.pop(); x != want || ok != some {
		t.Fatalf("pop = %d, %v; not %d, %v", x, ok, want, some)
	}
}
