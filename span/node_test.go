package span

import (
	"math/rand/v2"
	"testing"

	"guilloche/api"
)

// checkNode checks that the tree is balanced and that what its nodes count is right. It returns the height.
func checkNode(t *testing.T, n *node) int {
	t.Helper()
	if n == nil {
		return 0
	}
	left, right := checkNode(t, n.left), checkNode(t, n.right)
	if left-right < -1 || left-right > 1 {
		t.Fatalf("the heights at %v are %d and %d", n.run, left, right)
	}
	height, runs := 1+max(left, right), 1+n.left.len()+n.right.len()
	if n.height != height || n.runs != runs {
		t.Fatalf("at %v: height %d, %d runs; not %d, %d", n.run, n.height, n.runs, height, runs)
	}
	return height
}

// addNodes adds the nodes of the tree to the set, and returns how many of them it did not contain.
func addNodes(set map[*node]bool, n *node) int {
	if n == nil || set[n] {
		return 0
	}
	set[n] = true
	left := addNodes(set, n.left)
	return 1 + left + addNodes(set, n.right)
}

func stripes(t *testing.T, runs, width int) Map {
	t.Helper()
	var list []api.Run
	for i := range runs {
		list = append(list, api.Run{Lo: i * width, Hi: (i + 1) * width, Tag: i % 3})
	}
	m, err := From(runs*width, list)
	if err != api.OK {
		t.Fatalf("From = %d", err)
	}
	return m
}

// anyNode returns a balanced tree of that height and of any shape, whose pieces begin at lo.
func anyNode(r *rand.Rand, height, lo int) *node {
	if height <= 0 {
		return nil
	}
	heights := [][2]int{{1, 1}, {1, 2}, {2, 1}}[r.IntN(3)]
	if height == 1 {
		heights = [2]int{1, 1}
	}
	left := anyNode(r, height-heights[0], lo)
	if left != nil {
		lo = left.last().Hi
	}
	run := api.Run{Lo: lo, Hi: lo + 1, Tag: lo % 3}
	return newNode(left, run, anyNode(r, height-heights[1], run.Hi))
}

func TestJoin(t *testing.T) {
	r := rand.New(rand.NewPCG(3, 15))
	for range 20 {
		for pair := range 100 {
			left := anyNode(r, pair/10, 0)
			lo := left.len()
			right := anyNode(r, pair%10, lo+1)
			both := join(left, api.Run{Lo: lo, Hi: lo + 1, Tag: 5}, right)
			checkNode(t, both)
			if most := 1 + max(left.tall(), right.tall()); both.tall() > most {
				t.Errorf("the height is %d, not at most %d", both.tall(), most)
			}
			end := 0
			for run := range both.within(0, 1<<10) {
				if run.Lo != end || run.Hi != end+1 {
					t.Fatalf("the run %v comes after %d", run, end)
				}
				end++
			}
			if end != both.len() || end != left.len()+right.len()+1 {
				t.Errorf("there are %d runs", end)
			}
		}
	}
}

func TestBalance(t *testing.T) {
	r := rand.New(rand.NewPCG(3, 13))
	const size = 1 << 13
	m, _ := New(size)
	checkNode(t, m.root)
	for i := range 4000 {
		lo := r.IntN(size)
		width := 1 + r.IntN(9)
		if i%100 == 99 {
			width = r.IntN(size)
		}
		hi := min(size, lo+width)
		next, err := m.Set(lo, hi, r.IntN(api.MaxTags))
		if i%3 == 0 {
			next, _, err = m.Swap(lo, hi, r.IntN(api.MaxTags), r.IntN(api.MaxTags))
		}
		if err == api.OK {
			m = next
		}
		checkNode(t, m.root)
	}
	// Runs that are added at one end alone.
	m, _ = New(size)
	for i := range api.MaxRuns - 1 {
		m, _ = m.Set(i, i+1, 1+i%2)
	}
	checkNode(t, m.root)
	if m.Len() != api.MaxRuns {
		t.Errorf("there are %d runs", m.Len())
	}
	m, _, _ = m.Swap(0, size, 1, 2)
	checkNode(t, m.root)
}

// An update shares most of its nodes with the previous version.
func TestSharing(t *testing.T) {
	r := rand.New(rand.NewPCG(3, 14))
	const width = 8
	m := stripes(t, api.MaxRuns-10, width)
	set := map[*node]bool{}
	addNodes(set, m.root)
	for range 200 {
		lo := r.IntN(m.Size() - 2*width)
		a, errA := m.Set(lo, lo+width, 5)
		b, n, errB := a.Swap(0, m.Size(), 5, 6) // few of the pieces
		c, errC := Apply(m, []api.Change{{Lo: 0, Hi: width, From: 0, To: 3}})
		if errA != api.OK || errB != api.OK || errC != api.OK || n != width {
			t.Fatalf("updates: %d, %d, %d, %d", n, errA, errB, errC)
		}
		for _, next := range []Map{a, b, c} {
			checkNode(t, next.root)
			if added := addNodes(set, next.root); added > 100 {
				t.Errorf("an update of %d runs makes %d new nodes", m.Len(), added)
			}
		}
	}
}
