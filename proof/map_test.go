package proof_test

import (
	"encoding/hex"
	"math"
	"reflect"
	"slices"
	"testing"

	"guilloche/api"
	"guilloche/proof"
	"guilloche/span"
)

func TestMapRoot(t *testing.T) {
	r := newSource(3)
	for cells := 1; cells < 60; cells++ {
		for _, cell := range []int{1, 300, api.MaxPieces / 64} {
			m, runs := newMap(t, randomTags(r, cells, 1+r.IntN(api.MaxTags)), cell)
			root, err := proof.MapRoot(m)
			checkHash(t, "MapRoot", root, err, mapRoot(runs), api.OK)
		}
	}
	for _, cells := range []int{api.MaxRuns - 1, api.MaxRuns} {
		for _, cell := range []int{1, 2, api.MaxPieces / api.MaxRuns} {
			m, runs := newMap(t, stripes(cells), cell)
			root, err := proof.MapRoot(m)
			checkHash(t, "MapRoot", root, err, mapRoot(runs), api.OK)
		}
	}
}

// The bytes are written out here.
func TestMapRootOfOneRun(t *testing.T) {
	m, _ := span.New(0x0102030405)
	m, _ = m.Set(0, 0x0102030405, 15)
	leaf := "\x00\x00\x00\x00\x00\x00\x00\x00" + "\x00\x00\x00\x01\x02\x03\x04\x05" + "\x0f"
	tree := sum("\x00" + leaf)
	want := sum("\x02" + "\x00\x00\x00\x01\x02\x03\x04\x05" + "\x00\x00\x00\x00\x00\x00\x00\x01" + string(tree[:]))
	root, err := proof.MapRoot(m)
	checkHash(t, "MapRoot", root, err, want, api.OK)
	if len(leaf) != 17 {
		t.Errorf("the leaf has %d bytes", len(leaf))
	}
}

// Maps with the same tags have the same root, whatever their updates; others have another one.
func TestMapRootDependsOnTagsAlone(t *testing.T) {
	r := newSource(4)
	const size = 12
	seen := map[string][]int{}
	for range 500 {
		tags := randomTags(r, size, 3)
		m, _ := span.New(size)
		for _, at := range r.Perm(size) {
			m, _ = m.Set(at, at+1, tags[at])
		}
		root, err := proof.MapRoot(m)
		direct, _ := newMap(t, tags, 1)
		want, _ := proof.MapRoot(direct)
		checkHash(t, "MapRoot", root, err, want, api.OK)
		key := hex.EncodeToString(root[:])
		if other, ok := seen[key]; ok && !slices.Equal(other, tags) {
			t.Errorf("%v and %v have the same root", other, tags)
		}
		seen[key] = tags
	}
	small, _ := span.New(size)
	great, _ := span.New(size + 1)
	one, _ := proof.MapRoot(small)
	two, _ := proof.MapRoot(great)
	if one == two {
		t.Error("maps of different sizes have the same root")
	}
}

func TestUnusableMap(t *testing.T) {
	var none span.Map
	root, err := proof.MapRoot(none)
	checkHash(t, "MapRoot", root, err, api.Hash{}, api.ErrUnusable)
	for _, at := range append(odd(1), 0) {
		checkNoClaim(t, none, at, api.ErrUnusable)
		for _, hi := range append(odd(1), 0) {
			checkNoRange(t, none, at, hi, api.ErrUnusable)
		}
	}
}

func checkNoClaim(t *testing.T, m span.Map, at int, want api.Errno) {
	t.Helper()
	c, err := proof.State(m, at)
	if !reflect.ValueOf(c).IsZero() || err != want {
		t.Errorf("State(%d) = %v, %d; not %d", at, c, err, want)
	}
}

func TestState(t *testing.T) {
	r := newSource(5)
	for cells := 1; cells < 25; cells++ {
		for _, cell := range []int{1, 3} {
			m, runs := newMap(t, randomTags(r, cells, 3), cell)
			for at := range cells * cell {
				checkState(t, m, runs, at)
			}
			for _, at := range odd(cells * cell) {
				checkNoClaim(t, m, at, api.ErrRange)
			}
		}
	}
	for _, cell := range []int{1, 2, api.MaxPieces / api.MaxRuns} {
		m, runs := newMap(t, stripes(api.MaxRuns), cell)
		for _, i := range somePositions(api.MaxRuns) {
			checkState(t, m, runs, i*cell)
			checkState(t, m, runs, (i+1)*cell-1)
		}
	}
}

// checkState checks the claim for a piece, and that it is accepted for the pieces of its run alone.
func checkState(t *testing.T, m span.Map, runs []api.Run, at int) {
	t.Helper()
	i := slices.IndexFunc(runs, func(run api.Run) bool { return at < run.Hi })
	want := api.Claim{Run: runs[i], Index: i, Count: len(runs), Size: m.Size(), Path: outerHashes(leaves(runs), i, i+1)}
	c, err := proof.State(m, at)
	if !equalClaims(c, want) || err != api.OK {
		t.Errorf("State(%d) = %v, %d; not %v", at, c, err, want)
	}
	root, _ := proof.MapRoot(m)
	for _, other := range append(odd(m.Size()), 0, at, runs[i].Lo-1, runs[i].Lo, runs[i].Hi-1, runs[i].Hi) {
		tag, ok := proof.Accept(root, other, c)
		if other >= runs[i].Lo && other < runs[i].Hi {
			checkTag(t, other, c, tag, ok, runs[i].Tag, true)
		} else {
			checkTag(t, other, c, tag, ok, 0, false)
		}
	}
}

func equalClaims(a, b api.Claim) bool {
	same := slices.Equal(a.Path, b.Path)
	a.Path, b.Path = nil, nil
	return same && reflect.DeepEqual(a, b)
}

func checkTag(t *testing.T, at int, c api.Claim, tag int, ok bool, want int, wantOk bool) {
	t.Helper()
	if tag != want || ok != wantOk {
		t.Errorf("Accept of %v for %d = %d, %v; not %d, %v", c, at, tag, ok, want, wantOk)
	}
}

// No change of a claim, and of the root, is accepted.
func TestAcceptOfChangedClaims(t *testing.T) {
	r := newSource(6)
	for cells := 1; cells < 20; cells++ {
		m, runs := newMap(t, randomTags(r, cells, 3), 3)
		root := mapRoot(runs)
		for at := range m.Size() {
			c, _ := proof.State(m, at)
			for _, bad := range changedClaims(c) {
				tag, ok := proof.Accept(root, at, bad)
				checkTag(t, at, bad, tag, ok, 0, false)
			}
			for bit := range 256 {
				tag, ok := proof.Accept(flipped(root, bit), at, c)
				checkTag(t, at, c, tag, ok, 0, false)
			}
		}
	}
}

// changed returns other numbers.
func changed(number int) []int {
	return []int{number - 1, number + 1, -number - 1, number + 256, number + 1<<32, math.MinInt, math.MaxInt, ^number, number ^ 8}
}

func changedClaims(c api.Claim) []api.Claim {
	var out []api.Claim
	for i := range 6 {
		for k := range 9 {
			bad := c
			field := []*int{&bad.Run.Lo, &bad.Run.Hi, &bad.Run.Tag, &bad.Index, &bad.Count, &bad.Size}[i]
			*field = changed(*field)[k]
			out = append(out, bad)
		}
	}
	for _, path := range spoiled(c.Path) {
		bad := c
		bad.Path = path
		out = append(out, bad)
	}
	return out
}

// An old claim is not accepted for a new map in which the run has changed.
func TestAcceptOfOldClaims(t *testing.T) {
	m, _ := span.New(100)
	m, _ = m.Set(10, 20, 1)
	next, _ := m.Set(15, 16, 2)
	old, _ := proof.MapRoot(m)
	root, _ := proof.MapRoot(next)
	for at := range 100 {
		before, _ := proof.State(m, at)
		after, _ := proof.State(next, at)
		tag, ok := proof.Accept(root, at, before)
		checkTag(t, at, before, tag, ok, 0, false)
		tag, ok = proof.Accept(old, at, after)
		checkTag(t, at, after, tag, ok, 0, false)
	}
}

// isSound is what the chapter says of a claim for a piece.
func isSound(at int, c api.Claim) bool {
	lo, hi := c.Run.Lo, c.Run.Hi
	return 0 <= lo && lo <= at && at < hi && hi <= c.Size && c.Size <= api.MaxPieces && 0 <= c.Run.Tag && c.Run.Tag < api.MaxTags &&
		0 <= c.Index && c.Index < c.Count && c.Count <= api.MaxRuns && (lo == 0) == (c.Index == 0) && (hi == c.Size) == (c.Index == c.Count-1)
}

// forged is forgedRange for a claim for a piece.
func forged(c api.Claim) (api.Hash, api.Claim) {
	root, r := forgedRange(api.RangeClaim{Runs: []api.Run{c.Run}, First: c.Index, Count: c.Count, Size: c.Size})
	c.Path = r.Path
	return root, c
}

func checkForged(t *testing.T, at int, c api.Claim) bool {
	t.Helper()
	root, c := forged(c)
	want := isSound(at, c)
	tag, ok := proof.Accept(root, at, c)
	if want {
		checkTag(t, at, c, tag, ok, c.Run.Tag, true)
	} else {
		checkTag(t, at, c, tag, ok, 0, false)
	}
	return want
}

// All small claims, with roots that do prove them: a sound one is accepted, and no other.
func TestAcceptOfForgedClaims(t *testing.T) {
	sound := 0
	for code := range 6 * 6 * 5 * 5 * 5 * 5 {
		next := func(n, least int) int {
			digit := code % n
			code /= n
			return digit + least
		}
		c := api.Claim{Run: api.Run{Lo: next(6, -1), Hi: next(6, -1), Tag: 3}, Index: next(5, -1), Count: next(5, 0), Size: next(5, 0)}
		if checkForged(t, next(5, -1), c) {
			sound++
		}
	}
	if sound < 50 {
		t.Errorf("only %d claims are sound", sound)
	}
}

func TestAcceptAtLimits(t *testing.T) {
	for _, tag := range []int{-1, 0, 1, api.MaxTags - 1, api.MaxTags, 255, 256, 259, math.MinInt, math.MaxInt} {
		checkForged(t, 3, api.Claim{Run: api.Run{Lo: 2, Hi: 4, Tag: tag}, Index: 1, Count: 3, Size: 9})
	}
	for _, size := range []int{1, api.MaxPieces - 1, api.MaxPieces, api.MaxPieces + 1, math.MaxInt - 1, math.MaxInt} {
		checkForged(t, size-1, api.Claim{Run: api.Run{Lo: 0, Hi: size, Tag: 1}, Index: 0, Count: 1, Size: size})
		checkForged(t, size, api.Claim{Run: api.Run{Lo: 0, Hi: size, Tag: 1}, Index: 0, Count: 1, Size: size})
		checkForged(t, 0, api.Claim{Run: api.Run{Lo: math.MinInt, Hi: size, Tag: 1}, Index: 0, Count: 1, Size: size})
		checkForged(t, math.MinInt, api.Claim{Run: api.Run{Lo: math.MinInt, Hi: size, Tag: 1}, Index: 0, Count: 1, Size: size})
	}
	for _, count := range []int{api.MaxRuns - 1, api.MaxRuns, api.MaxRuns + 1, 2 * api.MaxRuns} {
		for _, i := range []int{0, 1, count - 1} {
			c := api.Claim{Run: api.Run{Lo: min(i, 1), Hi: 99, Tag: 1}, Index: i, Count: count, Size: 100}
			if i == count-1 {
				c.Size = 99
			}
			if checkForged(t, 50, c) != (count <= api.MaxRuns) {
				t.Errorf("soundness of run %d of %d is wrong", i, count)
			}
		}
	}
}

func TestAcceptOfUnsoundClaims(t *testing.T) {
	run := api.Run{Lo: 3, Hi: 5, Tag: 1}
	for _, c := range []struct {
		at    int
		claim api.Claim
		want  bool
	}{
		{4, api.Claim{Run: run, Index: 1, Count: 3, Size: 9}, true},
		{3, api.Claim{Run: run, Index: 1, Count: 3, Size: 9}, true},
		{2, api.Claim{Run: run, Index: 1, Count: 3, Size: 9}, false},
		{5, api.Claim{Run: run, Index: 1, Count: 3, Size: 9}, false},
		{4, api.Claim{Run: run, Index: 0, Count: 3, Size: 9}, false},
		{4, api.Claim{Run: run, Index: 2, Count: 3, Size: 9}, false},
		{4, api.Claim{Run: run, Index: 2, Count: 3, Size: 5}, true},
		{4, api.Claim{Run: run, Index: 1, Count: 3, Size: 5}, false},
		{4, api.Claim{Run: run, Index: 3, Count: 3, Size: 9}, false},
		{4, api.Claim{Run: run, Index: -1, Count: 3, Size: 9}, false},
		{4, api.Claim{Run: run, Index: 1, Count: 0, Size: 9}, false},
		{4, api.Claim{Run: run, Index: 1, Count: -1, Size: 9}, false},
		{4, api.Claim{Run: run, Index: math.MaxInt, Count: math.MinInt, Size: 9}, false},
		{4, api.Claim{Run: run, Index: 1, Count: 3, Size: 4}, false},
		{-1, api.Claim{Run: api.Run{Lo: -1, Hi: 5, Tag: 1}, Index: 1, Count: 3, Size: 9}, false},
		{0, api.Claim{Run: api.Run{Lo: -1, Hi: 5, Tag: 1}, Index: 1, Count: 3, Size: 9}, false},
		{0, api.Claim{Run: api.Run{Lo: 0, Hi: 5, Tag: 1}, Index: 1, Count: 3, Size: 9}, false},
		{0, api.Claim{Run: api.Run{Lo: 0, Hi: 5, Tag: 1}, Index: 0, Count: 3, Size: 9}, true},
	} {
		if checkForged(t, c.at, c.claim) != c.want {
			t.Errorf("soundness for %d of %v is not %v", c.at, c.claim, c.want)
		}
	}
}

func TestAcceptOfOddNumbers(t *testing.T) {
	run := api.Run{Lo: 0, Hi: 1, Tag: 1}
	numbers := append(odd(api.MaxRuns), 0, 1, 2)
	for _, i := range numbers {
		for _, count := range numbers {
			for _, at := range numbers {
				c := api.Claim{Run: run, Index: i, Count: count, Size: 1}
				root := mapHash(1, count, treeHash([]string{leaf(run)}))
				tag, ok := proof.Accept(root, at, c)
				if at == 0 && i == 0 && count == 1 {
					checkTag(t, at, c, tag, ok, 1, true)
				} else {
					checkTag(t, at, c, tag, ok, 0, false)
				}
			}
		}
	}
	tag, ok := proof.Accept(api.Hash{}, 0, api.Claim{})
	checkTag(t, 0, api.Claim{}, tag, ok, 0, false)
}
