package span_test

import (
	"math"
	"math/rand/v2"
	"slices"
	"testing"

	"guilloche/api"
	"guilloche/span"
)

// apply performs the changes on pieces, which are the cells.
func (d model) apply(l []api.Change) (model, api.Errno) {
	for _, c := range l {
		if c.Lo < 0 || c.Lo >= c.Hi || c.Hi > len(d.tags) {
			return model{}, api.ErrRange
		}
		if min(c.From, c.To) < 0 || max(c.From, c.To) >= api.MaxTags {
			return model{}, api.ErrArg
		}
		for _, tag := range d.tags[c.Lo:c.Hi] {
			if tag != c.From {
				return model{}, api.ErrConflict
			}
		}
		d = d.set(c.Lo, c.Hi, c.To)
		if len(d.all()) > api.MaxRuns {
			return model{}, api.ErrFull
		}
	}
	return d, api.OK
}

func checkApply(t *testing.T, d model, l []api.Change) api.Errno {
	t.Helper()
	m, list := d.build(t), slices.Clone(l)
	got, err := span.Apply(m, list)
	want, wantErr := d.apply(l)
	if wantErr == api.OK {
		checkMap(t, "Apply", got, err, want)
	} else {
		checkNoMap(t, "Apply", got, err, wantErr)
	}
	if !slices.Equal(l, list) {
		t.Error("Apply changes its list")
	}
	checkMap(t, "the map after Apply", m, api.OK, d)
	return err
}

func TestApply(t *testing.T) {
	r := rand.New(rand.NewPCG(3, 6))
	seen := map[api.Errno]int{}
	for range 3000 {
		d := randomModel(r, 1+r.IntN(12), 1, 1+r.IntN(3))
		var l []api.Change
		for range r.IntN(5) {
			l = append(l, randomChange(r, d))
		}
		seen[checkApply(t, d, l)]++
	}
	for _, err := range []api.Errno{api.OK, api.ErrRange, api.ErrArg, api.ErrConflict} {
		if seen[err] < 100 {
			t.Errorf("only %d cases with %d", seen[err], err)
		}
	}
}

// randomChange returns a change that often is possible on d.
func randomChange(r *rand.Rand, d model) api.Change {
	lo := r.IntN(len(d.tags))
	c := api.Change{Lo: lo, Hi: lo + 1, From: d.tags[lo], To: r.IntN(3)}
	for c.Hi < len(d.tags) && d.tags[c.Hi] == c.From && r.IntN(3) > 0 {
		c.Hi++
	}
	switch r.IntN(16) {
	case 0:
		c.Hi += r.IntN(3)
	case 1:
		c.Hi = c.Lo - r.IntN(2)
	case 2:
		c.Lo -= r.IntN(3)
	case 3:
		c.From = r.IntN(3)
	case 4:
		c.To = badTags()[r.IntN(4)]
	case 5:
		c.From = badTags()[r.IntN(4)]
	}
	return c
}

func TestApplyErrors(t *testing.T) {
	d := model{[]int{0, 0, 1, 1, 1, 2}, 1}
	m := d.build(t)
	good := api.Change{Lo: 0, Hi: 2, From: 0, To: 1}
	bad := append(badRanges(d.size()), [2]int{0, 0}, [2]int{3, 3}, [2]int{6, 6}) // an empty range as well
	for _, c := range bad {
		for _, tag := range append(badTags(), 7) { // ErrRange comes before ErrArg and ErrConflict
			bad := api.Change{Lo: c[0], Hi: c[1], From: tag, To: tag}
			got, err := span.Apply(m, []api.Change{good, bad})
			checkNoMap(t, "Apply", got, err, api.ErrRange)
		}
	}
	for _, tag := range badTags() { // ErrArg comes before ErrConflict
		for _, bad := range []api.Change{{Lo: 0, Hi: 6, From: tag, To: 1}, {Lo: 0, Hi: 6, From: 1, To: tag}, {Lo: 2, Hi: 5, From: 1, To: tag}} {
			got, err := span.Apply(m, []api.Change{bad})
			checkNoMap(t, "Apply", got, err, api.ErrArg)
		}
	}
	for _, bad := range []api.Change{
		{Lo: 2, Hi: 6, From: 1, To: 3},
		{Lo: 1, Hi: 5, From: 1, To: 3},
		{Lo: 1, Hi: 4, From: 0, To: 1},
		{Lo: 0, Hi: 6, From: 0, To: 0},
		{Lo: 0, Hi: 1, From: 3, To: 3},
		{Lo: 5, Hi: 6, From: 1, To: 2},
	} {
		got, err := span.Apply(m, []api.Change{bad})
		checkNoMap(t, "Apply", got, err, api.ErrConflict)
	}
	checkMap(t, "the map after errors", m, api.OK, d)
}

// The errors of a change come before those of the changes after it.
func TestApplyChangeByChange(t *testing.T) {
	d := model{[]int{0, 0, 1, 1, 1, 2}, 1}
	bad := map[api.Errno]api.Change{
		api.ErrRange:    {Lo: 0, Hi: math.MaxInt},
		api.ErrArg:      {Lo: 0, Hi: 6, From: -1},
		api.ErrConflict: {Lo: 0, Hi: 6},
	}
	for first, c := range bad {
		for _, other := range bad {
			if err := checkApply(t, d, []api.Change{{Lo: 5, Hi: 6, From: 2, To: 2}, c, other}); err != first {
				t.Errorf("Apply = %d, not %d", err, first)
			}
		}
	}
	checkApply(t, d, nil)
	// Each change finds the result of the previous one, even where they overlap.
	checkApply(t, d, []api.Change{{Lo: 0, Hi: 2, From: 0, To: 1}, {Lo: 0, Hi: 5, From: 1, To: 2}, {Lo: 1, Hi: 6, From: 2, To: 0}})
	checkApply(t, d, []api.Change{{Lo: 0, Hi: 2, From: 0, To: 1}, {Lo: 0, Hi: 2, From: 0, To: 1}})
}

func TestApplyOfManyRuns(t *testing.T) {
	const most = api.MaxRuns
	divide := api.Change{Lo: 4000, Hi: 4001, From: 0, To: 2}
	join := api.Change{Lo: 10, Hi: 12, From: 1, To: 0}
	for _, c := range []struct {
		runs int
		list []api.Change
		want api.Errno
	}{
		{most, []api.Change{divide}, api.ErrFull},
		{most, []api.Change{divide, join}, api.ErrFull}, // though the last result would not have too many
		{most, []api.Change{divide, {}}, api.ErrFull},
		{most, []api.Change{{}, divide}, api.ErrRange},
		{most, []api.Change{join, divide}, api.OK},
		{most, []api.Change{{Lo: 4000, Hi: 4001, From: 0, To: 0}}, api.OK},
		{most, []api.Change{{Lo: 4000, Hi: 4001, From: 0, To: 1}}, api.OK},
		{most, []api.Change{{Lo: 4000, Hi: 4001, From: 1, To: 2}}, api.ErrConflict},
		{most - 1, []api.Change{divide}, api.OK},
		{most - 1, []api.Change{divide, {Lo: 0, Hi: 1, From: 0, To: 2}}, api.ErrFull},
	} {
		if err := checkApply(t, stripes(c.runs), c.list); err != c.want {
			t.Errorf("Apply of %v = %d, not %d", c.list, err, c.want)
		}
	}
}

func TestApplyOfGreatMaps(t *testing.T) {
	m, _ := span.New(api.MaxPieces)
	const half = api.MaxPieces / 2
	m, err := span.Apply(m, []api.Change{{Lo: half, Hi: api.MaxPieces, From: 0, To: 9}, {Lo: half, Hi: half + 1, From: 9, To: 0}})
	if err != api.OK {
		t.Fatalf("Apply = %d", err)
	}
	runs, err := m.Runs(0, api.MaxPieces, 9)
	checkRuns(t, "Runs", runs, err, []api.Run{{Lo: 0, Hi: half + 1, Tag: 0}, {Lo: half + 1, Hi: api.MaxPieces, Tag: 9}}, api.OK)
}
