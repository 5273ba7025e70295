package proof

import (
	"iter"
	"math/bits"

	"guilloche/api"
)

// Bytes before what is hashed: no string of one kind is one of another kind.
const (
	leafMark = "\x00"
	nodeMark = "\x01"
	mapMark  = "\x02"
)

// part is the positions from lo to hi - 1 of a list.
type part struct {
	lo, hi int
}

func whole(n int) part { return part{0, n} }

func single(i int) part { return part{i, i + 1} }

// halves divides a part of at least two positions as its tree does: the left one has the greatest possible power of two.
func (p part) halves() (left, right part) {
	middle := p.lo + 1<<(bits.Len(uint(p.hi-p.lo-1))-1)
	return part{p.lo, middle}, part{middle, p.hi}
}

// outside visits the parts of the tree of p whose hashes are the outer hashes for the positions of q.
func (p part) outside(q part) iter.Seq[part] {
	return func(yield func(part) bool) { p.visitOutside(q, yield) }
}

// visitOutside returns whether to go on.
func (p part) visitOutside(q part, yield func(part) bool) bool {
	switch {
	case p.hi <= q.lo || q.hi <= p.lo:
		return yield(p)
	case q.lo <= p.lo && p.hi <= q.hi:
		return true
	}
	left, right := p.halves()
	return left.visitOutside(q, yield) && right.visitOutside(q, yield)
}

// beyond visits the parts of the tree of p, a whole list, whose hashes show that it begins with its first m strings.
func (p part) beyond(m int) iter.Seq[part] {
	return func(yield func(part) bool) { p.visitBeyond(m, yield) }
}

// visitBeyond returns whether to go on. If p ends at m, its hash is known in advance only if p is all of the first m strings.
func (p part) visitBeyond(m int, yield func(part) bool) bool {
	if p.hi == m {
		return p.lo == 0 || yield(p)
	}
	left, right := p.halves()
	if m <= left.hi {
		return left.visitBeyond(m, yield) && yield(right)
	}
	return right.visitBeyond(m, yield) && yield(left)
}

// tree has the tree hashes of some parts of a list, from which those of greater ones follow.
type tree map[part]api.Hash

// treeOf returns the tree of a list that has these strings from the position first on.
func treeOf(first int, list []string) tree {
	t := tree{}
	for i, s := range list {
		t[single(first+i)] = hashOf(leafMark, s)
	}
	return t
}

// put adds the hashes of the parts. It reports whether there is exactly one for each of them.
func (t tree) put(parts iter.Seq[part], path []api.Hash) bool {
	used := 0
	for p := range parts {
		if used == len(path) {
			return false
		}
		t[p] = path[used]
		used++
	}
	return used == len(path)
}

// hash returns the tree hash of a part, which consists of parts that t has.
func (t tree) hash(p part) api.Hash {
	if p.lo == p.hi {
		return hashOf()
	}
	if known, ok := t[p]; ok {
		return known
	}
	left, right := p.halves()
	one, two := t.hash(left), t.hash(right)
	return hashOf(nodeMark, string(one[:]), string(two[:]))
}

func treeHash(list []string) api.Hash { return treeOf(0, list).hash(whole(len(list))) }

// partHashes returns the tree hashes of these parts of the list, in order.
func partHashes(list []string, parts iter.Seq[part]) []api.Hash {
	var out []api.Hash
	for p := range parts {
		out = append(out, treeOf(p.lo, list[p.lo:p.hi]).hash(p))
	}
	return out
}

// outerHashes returns the outer hashes of the list for the positions of q.
func outerHashes(list []string, q part) []api.Hash {
	return partHashes(list, whole(len(list)).outside(q))
}

// rebuild returns the tree hash of a list of n strings that has the entries from the position first on, and path as the outer hashes for them; and whether path has the right length.
func rebuild(n, first int, entries []string, path []api.Hash) (api.Hash, bool) {
	t := treeOf(first, entries)
	if !t.put(whole(n).outside(part{first, first + len(entries)}), path) {
		return api.Hash{}, false
	}
	return t.hash(whole(n)), true
}
