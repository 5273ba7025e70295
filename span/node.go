package span

import (
	"iter"

	"guilloche/api"
)

// node is a tree of runs that adjoin each other, in ascending order. It is balanced: the heights of its two parts differ by at most 1.
// A node never changes, so that maps can share it. A nil node is the tree without runs, and all methods accept it, unless their comments say otherwise.
type node struct {
	left   *node
	run    api.Run
	right  *node
	height int
	runs   int
	pieces [api.MaxTags]int // per tag
}

// newNode returns the tree of left, run and right, whose heights differ by at most 1.
func newNode(left *node, run api.Run, right *node) *node {
	n := &node{left: left, run: run, right: right, height: 1, runs: 1}
	n.pieces[run.Tag] = run.Hi - run.Lo
	for _, part := range [2]*node{left, right} {
		if part == nil {
			continue
		}
		n.height = max(n.height, 1+part.height)
		n.runs += part.runs
		for tag := range n.pieces {
			n.pieces[tag] += part.pieces[tag]
		}
	}
	return n
}

// build returns the tree of these runs.
func build(runs []api.Run) *node {
	if len(runs) == 0 {
		return nil
	}
	middle := len(runs) / 2
	return newNode(build(runs[:middle]), runs[middle], build(runs[middle+1:]))
}

// balance is like newNode for heights that differ by at most 2.
func balance(left *node, run api.Run, right *node) *node {
	switch left.tall() - right.tall() {
	case 2:
		if left.left.tall() < left.right.tall() {
			left = raiseRight(left.left, left.run, left.right)
		}
		return raiseLeft(left, run, right)
	case -2:
		if right.right.tall() < right.left.tall() {
			right = raiseLeft(right.left, right.run, right.right)
		}
		return raiseRight(left, run, right)
	}
	return newNode(left, run, right)
}

// raiseLeft is like newNode, but the run at the top of left becomes that at the top of the tree.
func raiseLeft(left *node, run api.Run, right *node) *node {
	return newNode(left.left, left.run, newNode(left.right, run, right))
}

// raiseRight is the mirror image of raiseLeft.
func raiseRight(left *node, run api.Run, right *node) *node {
	return newNode(newNode(left, run, right.left), right.run, right.right)
}

// join is like newNode for any heights. It goes down no further than they differ, and the tree is at most 1 higher than its higher part.
func join(left *node, run api.Run, right *node) *node {
	switch {
	case left.tall() > right.tall()+1:
		return balance(left.left, left.run, join(left.right, run, right))
	case right.tall() > left.tall()+1:
		return balance(join(left, run, right.left), right.run, right.right)
	}
	return newNode(left, run, right)
}

// glue is like join for a run that may have the tag of its neighbors. It makes one run of these.
func glue(left *node, run api.Run, right *node) *node {
	if left != nil && left.last().Tag == run.Tag {
		run.Lo = left.last().Lo
		left, _ = left.split(run.Lo)
	}
	if right != nil && right.first().Tag == run.Tag {
		run.Hi = right.first().Hi
		_, right = right.split(run.Hi)
	}
	return join(left, run, right)
}

// concat returns the tree of left and right. Like glue, it makes one run of neighbors with the same tag.
func concat(left, right *node) *node {
	if right == nil {
		return left
	}
	first := right.first()
	_, rest := right.split(first.Hi)
	return glue(left, first, rest)
}

// split returns the tree of the pieces that are less than at, and that of the others.
func (n *node) split(at int) (*node, *node) {
	switch {
	case n == nil:
		return nil, nil
	case at <= n.run.Lo:
		below, middle := n.left.split(at)
		return below, join(middle, n.run, n.right)
	case at >= n.run.Hi:
		middle, above := n.right.split(at)
		return join(n.left, n.run, middle), above
	}
	low, high := n.run, n.run
	low.Hi, high.Lo = at, at
	return join(n.left, low, nil), join(nil, high, n.right)
}

// retag returns the tree in which the pieces with the tag from have the tag to. It shares the parts that have no such pieces.
func (n *node) retag(from, to int) *node {
	if n.count(from) == 0 {
		return n
	}
	run := n.run
	if run.Tag == from {
		run.Tag = to
	}
	return glue(n.left.retag(from, to), run, n.right.retag(from, to))
}

func (n *node) tall() int {
	if n == nil {
		return 0
	}
	return n.height
}

func (n *node) len() int {
	if n == nil {
		return 0
	}
	return n.runs
}

// count returns how many pieces have the tag.
func (n *node) count(tag int) int {
	if n == nil {
		return 0
	}
	return n.pieces[tag]
}

// countBelow returns how many pieces that are less than at have the tag.
func (n *node) countBelow(at, tag int) int {
	if n == nil {
		return 0
	}
	if at <= n.run.Lo {
		return n.left.countBelow(at, tag)
	}
	count := n.left.count(tag) + n.right.countBelow(at, tag)
	if n.run.Tag == tag {
		count += min(at, n.run.Hi) - n.run.Lo
	}
	return count
}

// find returns the piece with the tag for which exactly k lower pieces have it. There are more than k pieces with the tag.
func (n *node) find(tag, k int) int {
	lower := n.left.count(tag)
	if k < lower {
		return n.left.find(tag, k)
	}
	k -= lower
	if n.run.Tag == tag {
		if k < n.run.Hi-n.run.Lo {
			return n.run.Lo + k
		}
		k -= n.run.Hi - n.run.Lo
	}
	return n.right.find(tag, k)
}

// first returns the first run. There is one.
func (n *node) first() api.Run {
	for n.left != nil {
		n = n.left
	}
	return n.run
}

// last returns the last run. There is one.
func (n *node) last() api.Run {
	for n.right != nil {
		n = n.right
	}
	return n.run
}

// at returns the run that contains the piece. There is one.
func (n *node) at(piece int) api.Run {
	for piece < n.run.Lo || piece >= n.run.Hi {
		if piece < n.run.Lo {
			n = n.left
		} else {
			n = n.right
		}
	}
	return n.run
}

// within visits the runs of the range from lo to hi, in ascending order.
func (n *node) within(lo, hi int) iter.Seq[api.Run] {
	return func(yield func(api.Run) bool) {
		n.visit(lo, hi, yield)
	}
}

// visit yields the runs of the range, and returns whether to go on after them.
func (n *node) visit(lo, hi int, yield func(api.Run) bool) bool {
	if n == nil || lo >= hi {
		return true
	}
	if !n.left.visit(lo, min(hi, n.run.Lo), yield) {
		return false
	}
	part := api.Run{Lo: max(lo, n.run.Lo), Hi: min(hi, n.run.Hi), Tag: n.run.Tag}
	if part.Lo < part.Hi && !yield(part) {
		return false
	}
	return n.right.visit(max(lo, n.run.Hi), hi, yield)
}
