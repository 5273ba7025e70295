package proof

import (
	"slices"

	"guilloche/api"
	"guilloche/span"
)

// MapRoot returns the map hash of the map.
func MapRoot(m span.Map) (api.Hash, api.Errno) {
	runs, err := m.Runs(0, m.Size(), api.MaxRuns)
	if err != api.OK {
		return api.Hash{}, err
	}
	return mapHash(m.Size(), len(runs), treeHash(leaves(runs))), api.OK
}

// mapHash returns the map hash of a size, a count and a tree hash.
func mapHash(size, count int, root api.Hash) api.Hash {
	return hashOf(mapMark, eight(size), eight(count), string(root[:]))
}

// leaves returns the leaves of the runs.
func leaves(runs []api.Run) []string {
	out := make([]string, len(runs))
	for i, run := range runs {
		out[i] = eight(run.Lo) + eight(run.Hi) + string([]byte{byte(run.Tag)})
	}
	return out
}

// State returns the claim for the piece at.
func State(m span.Map, at int) (api.Claim, api.Errno) {
	c, err := Range(m, at, at+1)
	if err != api.OK {
		return api.Claim{}, err
	}
	return api.Claim{Run: c.Runs[0], Index: c.First, Count: c.Count, Size: c.Size, Path: c.Path}, api.OK
}

// Accept returns the tag of the piece at, and true, if root proves the claim for it. (This is a claim for a range of one piece. If at is the greatest int, the sum wraps around, and no claim is sound for such a range.)
func Accept(root api.Hash, at int, c api.Claim) (int, bool) {
	if !AcceptRange(root, at, at+1, api.RangeClaim{Runs: []api.Run{c.Run}, First: c.Index, Count: c.Count, Size: c.Size, Path: c.Path}) {
		return 0, false
	}
	return c.Run.Tag, true
}

// Range returns the claim for a range that is not empty.
func Range(m span.Map, lo, hi int) (api.RangeClaim, api.Errno) {
	runs, err := m.Runs(0, m.Size(), api.MaxRuns)
	if err != api.OK {
		return api.RangeClaim{}, err
	}
	if lo < 0 || hi <= lo || hi > m.Size() {
		return api.RangeClaim{}, api.ErrRange
	}
	first := slices.IndexFunc(runs, func(run api.Run) bool { return run.Hi > lo })
	last := slices.IndexFunc(runs, func(run api.Run) bool { return run.Hi >= hi })
	return api.RangeClaim{
		Runs:  slices.Clone(runs[first : last+1]),
		First: first,
		Count: len(runs),
		Size:  m.Size(),
		Path:  outerHashes(leaves(runs), part{first, last + 1}),
	}, api.OK
}

// AcceptRange reports whether root proves the claim for the range.
func AcceptRange(root api.Hash, lo, hi int, c api.RangeClaim) bool {
	if !fits(lo, hi, c) || !areRuns(c.Runs) || !covers(lo, hi, c) {
		return false
	}
	hash, ok := rebuild(c.Count, c.First, leaves(c.Runs), c.Path)
	return ok && mapHash(c.Size, c.Count, hash) == root
}

// fits reports whether the numbers of a claim are within their limits. (The number of runs is subtracted where it cannot lead out of the range of int.)
func fits(lo, hi int, c api.RangeClaim) bool {
	runs := len(c.Runs)
	return 0 <= lo && lo < hi && hi <= c.Size && c.Size <= api.MaxPieces &&
		0 < runs && runs <= c.Count && c.Count <= api.MaxRuns && 0 <= c.First && c.First <= c.Count-runs
}

// areRuns reports whether these may be successive runs of a map.
func areRuns(runs []api.Run) bool {
	for i, run := range runs {
		if run.Lo >= run.Hi || run.Tag < 0 || run.Tag >= api.MaxTags {
			return false
		}
		if i > 0 && (run.Lo != runs[i-1].Hi || run.Tag == runs[i-1].Tag) {
			return false
		}
	}
	return true
}

// covers reports whether the runs of a claim are those that contain a piece of the range, and end where the map does if they are its first or last ones.
func covers(lo, hi int, c api.RangeClaim) bool {
	first, last := c.Runs[0], c.Runs[len(c.Runs)-1]
	return 0 <= first.Lo && first.Lo <= lo && lo < first.Hi &&
		last.Lo < hi && hi <= last.Hi && last.Hi <= c.Size &&
		(first.Lo == 0) == (c.First == 0) &&
		(last.Hi == c.Size) == (c.First+len(c.Runs) == c.Count)
}
