package proof_test

import (
	"math"
	"math/rand/v2"
	"reflect"
	"slices"
	"testing"

	"guilloche/api"
	"guilloche/proof"
	"guilloche/span"
)

func checkNoRange(t *testing.T, m span.Map, lo, hi int, want api.Errno) {
	t.Helper()
	c, err := proof.Range(m, lo, hi)
	if !reflect.ValueOf(c).IsZero() || err != want {
		t.Errorf("Range(%d, %d) = %v, %d; not %d", lo, hi, c, err, want)
	}
}

// All ranges of small maps.
func TestRange(t *testing.T) {
	r := newSource(7)
	for cells := 1; cells < 13; cells++ {
		for _, cell := range []int{1, 2} {
			m, runs := newMap(t, randomTags(r, cells, 3), cell)
			for hi := range cells*cell + 1 {
				for lo := range hi {
					checkRange(t, m, runs, lo, hi)
				}
			}
		}
	}
}

func TestRangeOfGreatMaps(t *testing.T) {
	for _, cell := range []int{2, api.MaxPieces / api.MaxRuns} {
		for _, cells := range []int{api.MaxRuns - 1, api.MaxRuns} {
			m, runs := newMap(t, stripes(cells), cell)
			for _, ends := range [][2]int{{0, 1}, {0, cells}, {1, cells}, {1, cells - 1}, {1023, 1025}, {1024, 2048}, {1000, 3000}, {2047, 2049}, {2048, cells}, {0, 2048}, {cells - 1, cells}} {
				checkRange(t, m, runs, ends[0]*cell, ends[1]*cell)
				checkRange(t, m, runs, ends[0]*cell+cell-1, ends[1]*cell-cell+1)
			}
		}
	}
}

// checkRange checks the claim for a range, and that it is accepted for those ranges that have pieces of the same runs.
func checkRange(t *testing.T, m span.Map, runs []api.Run, lo, hi int) {
	t.Helper()
	if lo >= hi {
		checkNoRange(t, m, lo, hi, api.ErrRange)
		return
	}
	var first, last int
	for i, run := range runs {
		if run.Lo <= lo {
			first = i
		}
		if run.Lo < hi {
			last = i
		}
	}
	want := api.RangeClaim{Runs: runs[first : last+1], First: first, Count: len(runs), Size: m.Size(), Path: outerHashes(leaves(runs), first, last+1)}
	c, err := proof.Range(m, lo, hi)
	if !equalRangeClaims(c, want) || err != api.OK {
		t.Errorf("Range(%d, %d) = %v, %d; not %v", lo, hi, c, err, want)
	}
	root := mapRoot(runs)
	if !proof.AcceptRange(root, lo, hi, c) {
		t.Errorf("the claim for %d to %d is not accepted: %v", lo, hi, c)
	}
	for _, from := range []int{lo - 1, runs[first].Lo - 1, runs[first].Lo, runs[first].Hi - 1, runs[first].Hi} {
		for _, to := range []int{hi + 1, runs[last].Lo, runs[last].Lo + 1, runs[last].Hi, runs[last].Hi + 1} {
			fits := from < to && runs[first].Lo <= from && from < runs[first].Hi && runs[last].Lo < to && to <= runs[last].Hi
			if proof.AcceptRange(root, from, to, c) != fits {
				t.Errorf("AcceptRange of the claim for %d to %d, for %d to %d, is not %v", lo, hi, from, to, fits)
			}
		}
	}
}

func equalRangeClaims(a, b api.RangeClaim) bool {
	same := slices.Equal(a.Path, b.Path) && slices.Equal(a.Runs, b.Runs)
	a.Path, b.Path, a.Runs, b.Runs = nil, nil, nil, nil
	return same && reflect.DeepEqual(a, b)
}

func TestRangeErrors(t *testing.T) {
	m, runs := newMap(t, []int{0, 1, 2}, 2)
	for _, lo := range append(odd(6), 0, 1, 3, 5) {
		for _, hi := range append(odd(6), 0, 1, 3, 5) {
			if 0 <= lo && lo < hi && hi <= 6 {
				checkRange(t, m, runs, lo, hi)
			} else {
				checkNoRange(t, m, lo, hi, api.ErrRange)
			}
		}
	}
}

// A claim for one piece is that of State.
func TestRangeOfOnePiece(t *testing.T) {
	m, runs := newMap(t, []int{0, 1, 1, 2, 2, 0, 3}, 2)
	for at := range m.Size() {
		c, _ := proof.State(m, at)
		one := api.RangeClaim{Runs: []api.Run{c.Run}, First: c.Index, Count: c.Count, Size: c.Size, Path: c.Path}
		got, err := proof.Range(m, at, at+1)
		if !equalRangeClaims(got, one) || err != api.OK || !proof.AcceptRange(mapRoot(runs), at, at+1, one) {
			t.Errorf("Range(%d, %d) = %v, %d; not %v", at, at+1, got, err, one)
		}
	}
}

// No change of a claim, and of the root, is accepted.
func TestAcceptRangeOfChangedClaims(t *testing.T) {
	r := newSource(8)
	for cells := 1; cells < 10; cells++ {
		m, runs := newMap(t, randomTags(r, cells, 4), 2)
		root := mapRoot(runs)
		for range 30 {
			lo := r.IntN(m.Size())
			hi := lo + 1 + r.IntN(m.Size()-lo)
			c, _ := proof.Range(m, lo, hi)
			for _, bad := range changedRangeClaims(c) {
				if proof.AcceptRange(root, lo, hi, bad) {
					t.Errorf("the claim for %d to %d is accepted: %v instead of %v", lo, hi, bad, c)
				}
			}
			for bit := range 256 {
				if proof.AcceptRange(flipped(root, bit), lo, hi, c) {
					t.Errorf("the claim for %d to %d is accepted for another root", lo, hi)
				}
			}
		}
	}
}

func changedRangeClaims(c api.RangeClaim) []api.RangeClaim {
	var out []api.RangeClaim
	for i := range 3 + 3*len(c.Runs) {
		for k := range 9 {
			bad := c
			bad.Runs = slices.Clone(c.Runs)
			fields := []*int{&bad.First, &bad.Count, &bad.Size}
			for n := range bad.Runs {
				fields = append(fields, &bad.Runs[n].Lo, &bad.Runs[n].Hi, &bad.Runs[n].Tag)
			}
			*fields[i] = changed(*fields[i])[k]
			out = append(out, bad)
		}
	}
	for _, path := range spoiled(c.Path) {
		bad := c
		bad.Path = path
		out = append(out, bad)
	}
	for _, runs := range [][]api.Run{nil, c.Runs[1:], c.Runs[:len(c.Runs)-1], append(slices.Clone(c.Runs), c.Runs...), make([]api.Run, 5000)} {
		bad := c
		bad.Runs = runs
		out = append(out, bad)
	}
	return out
}

// isSoundFor is what the chapter says of a claim for a range.
func isSoundFor(lo, hi int, c api.RangeClaim) bool {
	if !(0 <= lo && lo < hi && hi <= c.Size && c.Size <= api.MaxPieces) || len(c.Runs) == 0 || c.First < 0 || c.First > api.MaxRuns {
		return false
	}
	if c.First+len(c.Runs) > c.Count || c.Count > api.MaxRuns {
		return false
	}
	for i, run := range c.Runs {
		if run.Tag < 0 || run.Tag >= api.MaxTags || run.Lo >= run.Hi {
			return false
		}
		if i > 0 && (run.Lo != c.Runs[i-1].Hi || run.Tag == c.Runs[i-1].Tag) {
			return false
		}
	}
	first, last := c.Runs[0], c.Runs[len(c.Runs)-1]
	if first.Lo < 0 || first.Lo > lo || first.Hi <= lo || last.Hi > c.Size || last.Hi < hi || last.Lo >= hi {
		return false
	}
	return (first.Lo == 0) == (c.First == 0) && (last.Hi == c.Size) == (c.First+len(c.Runs) == c.Count)
}

// forgedRange returns the claim with a path, and with a root for which it would be proved if it were sound: that of a list of Count strings that has the leaves at the positions from First on, as far as there are such positions.
func forgedRange(c api.RangeClaim) (api.Hash, api.RangeClaim) {
	list := words(max(0, min(c.Count, 3*api.MaxRuns)))
	first := max(-api.MaxRuns, min(c.First, 3*api.MaxRuns))
	for i, entry := range leaves(c.Runs) {
		if at := first + i; at >= 0 && at < len(list) {
			list[at] = entry
		}
	}
	c.Path = outerHashes(list, first, first+len(c.Runs))
	return mapHash(c.Size, c.Count, treeHash(list)), c
}

func checkForgedRange(t *testing.T, lo, hi int, c api.RangeClaim) bool {
	t.Helper()
	root, c := forgedRange(c)
	want := isSoundFor(lo, hi, c)
	if proof.AcceptRange(root, lo, hi, c) != want {
		t.Errorf("AcceptRange for %d to %d of %v is not %v", lo, hi, c, want)
	}
	return want
}

// A sound claim is accepted with a root that does prove it, and is not if one number of it is another one.
func TestAcceptRangeOfForgedClaims(t *testing.T) {
	r := newSource(9)
	sound := 0
	for range 4000 {
		lo, hi, c := randomClaim(r)
		if checkForgedRange(t, lo, hi, c) {
			sound++
		}
		for range 20 {
			from, to, bad := lo, hi, c
			bad.Runs = slices.Clone(c.Runs)
			fields := []*int{&from, &to, &bad.First, &bad.Count, &bad.Size}
			for n := range bad.Runs {
				fields = append(fields, &bad.Runs[n].Lo, &bad.Runs[n].Hi, &bad.Runs[n].Tag)
			}
			*fields[r.IntN(len(fields))] += r.IntN(5) - 2
			if checkForgedRange(t, from, to, bad) {
				sound++
			}
		}
	}
	if sound < 10000 {
		t.Errorf("only %d claims are sound", sound)
	}
}

// randomClaim returns a range and a claim for it, which is sound, mostly.
func randomClaim(r *rand.Rand) (int, int, api.RangeClaim) {
	c := api.RangeClaim{First: r.IntN(4)}
	end := 0
	if c.First > 0 {
		end = c.First + r.IntN(3)
	}
	for range 1 + r.IntN(4) {
		run := api.Run{Lo: end, Hi: end + 1 + r.IntN(3), Tag: r.IntN(5)}
		c.Runs = append(c.Runs, run)
		end = run.Hi
	}
	after := r.IntN(3)
	c.Count = c.First + len(c.Runs) + after
	c.Size = end + 2*after
	first, last := c.Runs[0], c.Runs[len(c.Runs)-1]
	lo := first.Lo + r.IntN(first.Hi-first.Lo)
	least := max(last.Lo, lo)
	return lo, least + 1 + r.IntN(last.Hi-least), c
}

func TestAcceptRangeAtLimits(t *testing.T) {
	const most = api.MaxPieces
	for _, size := range []int{most - 1, most, most + 1, math.MaxInt} {
		runs := []api.Run{{Lo: 0, Hi: 7, Tag: 15}, {Lo: 7, Hi: size, Tag: 0}}
		if checkForgedRange(t, 5, size, api.RangeClaim{Runs: runs, Count: 2, Size: size}) != (size <= most) {
			t.Errorf("soundness for the size %d is wrong", size)
		}
	}
	for _, count := range []int{api.MaxRuns - 1, api.MaxRuns, api.MaxRuns + 1, 2 * api.MaxRuns} {
		var runs []api.Run
		for i := range count {
			runs = append(runs, api.Run{Lo: 3 * i, Hi: 3*i + 3, Tag: i % 2})
		}
		for _, ends := range [][2]int{{0, count}, {0, 2}, {count - 2, count}, {1000, 3000}} {
			c := api.RangeClaim{Runs: runs[ends[0]:ends[1]], First: ends[0], Count: count, Size: 3 * count}
			if checkForgedRange(t, 3*ends[0]+1, 3*ends[1]-1, c) != (count <= api.MaxRuns) {
				t.Errorf("soundness for %d runs is wrong", count)
			}
		}
	}
	for _, tag := range []int{-1, 0, 15, 16, 255, 256, 257, math.MinInt, math.MaxInt} {
		for at := range 3 {
			runs := []api.Run{{Lo: 0, Hi: 1, Tag: 3}, {Lo: 1, Hi: 2, Tag: 4}, {Lo: 2, Hi: 3, Tag: 5}}
			runs[at].Tag = tag
			checkForgedRange(t, 0, 3, api.RangeClaim{Runs: runs, Count: 3, Size: 3})
		}
	}
}

// All conditions of a claim but one hold here.
func TestAcceptRangeOfUnsoundClaims(t *testing.T) {
	two := []api.Run{{Lo: 3, Hi: 5, Tag: 1}, {Lo: 5, Hi: 8, Tag: 2}}
	sound := api.RangeClaim{Runs: two, First: 1, Count: 4, Size: 20}
	for _, c := range []struct {
		lo, hi int
		claim  api.RangeClaim
		want   bool
	}{
		{4, 7, sound, true},
		{3, 8, sound, true},
		{4, 6, sound, true},
		{4, 5, sound, false},
		{2, 7, sound, false},
		{5, 7, sound, false},
		{4, 9, sound, false},
		{4, 7, api.RangeClaim{Runs: two, First: 0, Count: 4, Size: 20}, false},
		{4, 7, api.RangeClaim{Runs: two, First: 2, Count: 5, Size: 20}, true},
		{4, 7, api.RangeClaim{Runs: two, First: 2, Count: 4, Size: 20}, false},
		{4, 7, api.RangeClaim{Runs: two, First: 2, Count: 4, Size: 8}, true},
		{4, 7, api.RangeClaim{Runs: two, First: 1, Count: 4, Size: 8}, false},
		{4, 7, api.RangeClaim{Runs: two, First: 3, Count: 4, Size: 20}, false},
		{4, 7, api.RangeClaim{Runs: two, First: 4, Count: 4, Size: 20}, false},
		{4, 7, api.RangeClaim{Runs: two, First: 5, Count: 4, Size: 20}, false},
		{4, 7, api.RangeClaim{Runs: two, First: -1, Count: 4, Size: 20}, false},
		{4, 7, api.RangeClaim{Runs: two, First: -2, Count: 4, Size: 20}, false},
		{4, 7, api.RangeClaim{Runs: two, First: 1, Count: 0, Size: 20}, false},
		{4, 7, api.RangeClaim{Runs: two, First: math.MaxInt, Count: 4, Size: 20}, false},
		{4, 7, api.RangeClaim{Runs: two, First: math.MaxInt - 1, Count: math.MinInt, Size: 20}, false},
		{4, 7, api.RangeClaim{Runs: two, First: math.MaxInt - 5, Count: math.MinInt + 1, Size: 20}, false},
		{4, 7, api.RangeClaim{Runs: []api.Run{{Lo: 3, Hi: 5, Tag: 1}, {Lo: 5, Hi: 5, Tag: 3}, {Lo: 5, Hi: 8, Tag: 2}}, First: 1, Count: 9, Size: 20}, false},
		{4, 7, api.RangeClaim{Runs: []api.Run{{Lo: 3, Hi: 6, Tag: 1}, {Lo: 6, Hi: 5, Tag: 3}, {Lo: 5, Hi: 8, Tag: 2}}, First: 1, Count: 9, Size: 20}, false},
		{4, 7, api.RangeClaim{Runs: []api.Run{{Lo: 3, Hi: 9, Tag: 1}, {Lo: 9, Hi: 5, Tag: 2}, {Lo: 5, Hi: 8, Tag: 1}}, First: 1, Count: 9, Size: 20}, false},
		{4, 7, api.RangeClaim{Runs: []api.Run{{Lo: 3, Hi: 5, Tag: 1}, {Lo: 6, Hi: 8, Tag: 2}}, First: 1, Count: 9, Size: 20}, false},
		{4, 7, api.RangeClaim{Runs: []api.Run{{Lo: 3, Hi: 6, Tag: 1}, {Lo: 5, Hi: 8, Tag: 2}}, First: 1, Count: 9, Size: 20}, false},
		{4, 7, api.RangeClaim{Runs: []api.Run{{Lo: 3, Hi: 5, Tag: 2}, {Lo: 5, Hi: 8, Tag: 2}}, First: 1, Count: 9, Size: 20}, false},
		{4, 7, api.RangeClaim{Runs: []api.Run{{Lo: -3, Hi: 5, Tag: 1}, {Lo: 5, Hi: 8, Tag: 2}}, First: 1, Count: 9, Size: 20}, false},
		{4, 7, api.RangeClaim{Runs: []api.Run{{Lo: 0, Hi: 5, Tag: 1}, {Lo: 5, Hi: 8, Tag: 2}}, First: 0, Count: 9, Size: 20}, true},
		{4, 7, api.RangeClaim{Runs: []api.Run{{Lo: 0, Hi: 5, Tag: 1}, {Lo: 5, Hi: 8, Tag: 2}}, First: 1, Count: 9, Size: 20}, false},
		{-1, 7, api.RangeClaim{Runs: []api.Run{{Lo: 0, Hi: 5, Tag: 1}, {Lo: 5, Hi: 8, Tag: 2}}, First: 0, Count: 9, Size: 20}, false},
		{4, 7, api.RangeClaim{Runs: two, First: 1, Count: 4, Size: 7}, false},
	} {
		if checkForgedRange(t, c.lo, c.hi, c.claim) != c.want {
			t.Errorf("soundness for %d to %d of %v is not %v", c.lo, c.hi, c.claim, c.want)
		}
	}
}

// Sums of these numbers are outside the range of int.
func TestAcceptRangeOfOddNumbers(t *testing.T) {
	runs := []api.Run{{Lo: 0, Hi: 1, Tag: 1}, {Lo: 1, Hi: 2, Tag: 0}}
	numbers := append(odd(api.MaxRuns), 0, 1, 2, math.MaxInt-2, math.MinInt+2)
	for _, first := range numbers {
		for _, count := range numbers {
			for _, lo := range numbers {
				for _, hi := range numbers {
					c := api.RangeClaim{Runs: runs, First: first, Count: count, Size: 2}
					root := mapHash(2, count, treeHash(leaves(runs)))
					want := first == 0 && count == 2 && lo == 0 && hi == 2
					if proof.AcceptRange(root, lo, hi, c) != want {
						t.Errorf("AcceptRange for %d to %d of %v is not %v", lo, hi, c, want)
					}
				}
			}
		}
	}
	for _, size := range numbers {
		for _, at := range numbers {
			odd := []api.Run{{Lo: at, Hi: size, Tag: 1}, {Lo: size, Hi: at, Tag: 2}}
			checkForgedRange(t, 0, 1, api.RangeClaim{Runs: odd, Count: 2, Size: size})
			checkForgedRange(t, 0, 1, api.RangeClaim{Runs: odd[:1], Count: 1, Size: size})
		}
	}
	if proof.AcceptRange(api.Hash{}, 0, 1, api.RangeClaim{}) {
		t.Error("an empty claim is accepted")
	}
	none := api.RangeClaim{Count: 1, Size: 1, Path: []api.Hash{sum("")}}
	if proof.AcceptRange(mapHash(1, 1, sum("")), 0, 1, none) {
		t.Error("a claim without runs is accepted")
	}
}

// Claims share no memory with others, and the map stays as it was.
func TestClaimsAreNewMemory(t *testing.T) {
	m, runs := newMap(t, []int{0, 1, 2, 3, 4, 5, 6, 7}, 1)
	root := mapRoot(runs)
	c, _ := proof.Range(m, 2, 5)
	kept := api.RangeClaim{Runs: slices.Clone(c.Runs), First: c.First, Count: c.Count, Size: c.Size, Path: slices.Clone(c.Path)}
	one, _ := proof.State(m, 3)
	proof.AcceptRange(root, 2, 5, c)
	proof.Accept(root, 3, one)
	if !equalRangeClaims(c, kept) {
		t.Errorf("the claim was changed to %v", c)
	}
	clear(c.Runs)
	clear(c.Path)
	clear(one.Path)
	again, err := proof.Range(m, 2, 5)
	if !equalRangeClaims(again, kept) || err != api.OK {
		t.Errorf("Range(2, 5) = %v, %d; not %v", again, err, kept)
	}
	now, err := proof.MapRoot(m)
	checkHash(t, "MapRoot", now, err, root, api.OK)
}
