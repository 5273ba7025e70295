package span_test

import (
	"math/rand/v2"
	"slices"
	"testing"

	"guilloche/api"
	"guilloche/span"
)

// mutate returns a map that differs from d in some ranges.
func (d model) mutate(r *rand.Rand, ranges int) model {
	out := d.clone()
	for range ranges {
		lo, hi := randomRange(r, len(d.tags))
		out = out.set(lo, min(hi, lo+1+r.IntN(4)), r.IntN(4))
	}
	return out
}

// changes returns the changes from d to e.
func (d model) changes(e model) []api.Change {
	var out []api.Change
	for i := range d.tags {
		c := api.Change{Lo: i * d.cell, Hi: (i + 1) * d.cell, From: d.tags[i], To: e.tags[i]}
		if c.From != c.To {
			out = extend(out, c)
		}
	}
	return out
}

func extend(list []api.Change, c api.Change) []api.Change {
	if n := len(list); n > 0 && list[n-1].Hi == c.Lo && list[n-1].From == c.From && list[n-1].To == c.To {
		list[n-1].Hi = c.Hi
		return list
	}
	return append(list, c)
}

func TestEqualAndDiff(t *testing.T) {
	r := rand.New(rand.NewPCG(3, 5))
	for _, d := range models() {
		m := d.build(t)
		for ranges := range 8 {
			e := d.mutate(r, ranges/2)
			checkEqualAndDiff(t, d, e, m, e.build(t))
		}
	}
}

func checkEqualAndDiff(t *testing.T, d, e model, a, b span.Map) {
	t.Helper()
	same := slices.Equal(d.tags, e.tags)
	if span.Equal(a, b) != same || span.Equal(b, a) != same {
		t.Errorf("Equal of %v and %v is not %v", d.tags, e.tags, same)
	}
	changes, err := span.Diff(a, b)
	checkChanges(t, "Diff", changes, err, d.changes(e), api.OK)
	changes, err = span.Diff(b, a)
	checkChanges(t, "Diff", changes, err, e.changes(d), api.OK)
}

// All pairs of small maps.
func TestEqualAndDiffOfSmallMaps(t *testing.T) {
	list := smallModels(4, 3)
	for _, d := range list {
		for _, e := range list {
			checkEqualAndDiff(t, d, e, d.build(t), e.build(t))
		}
	}
}

// smallModels returns all maps of so many pieces with tags less than tags.
func smallModels(size, tags int) []model {
	out := []model{{nil, 1}}
	for range size {
		var longer []model
		for _, d := range out {
			for tag := range tags {
				longer = append(longer, model{append(slices.Clone(d.tags), tag), 1})
			}
		}
		out = longer
	}
	return out
}

func TestEqualAndDiffOfOtherSizes(t *testing.T) {
	for _, sizes := range [][2]int{{1, 2}, {10, 11}, {1, api.MaxPieces}, {api.MaxPieces - 1, api.MaxPieces}} {
		a, _ := span.New(sizes[0])
		b, _ := span.New(sizes[1])
		if span.Equal(a, b) || span.Equal(b, a) {
			t.Errorf("maps of the sizes %v are equal", sizes)
		}
		changes, err := span.Diff(a, b)
		checkChanges(t, "Diff", changes, err, nil, api.ErrArg)
		changes, err = span.Diff(b, a)
		checkChanges(t, "Diff", changes, err, nil, api.ErrArg)
	}
}

// There may be more changes than a map can have runs.
func TestDiffOfManyRuns(t *testing.T) {
	d := stripes(api.MaxRuns)
	e := d.clone()
	for i := range e.tags {
		e.tags[i] = 2 + (i+1)/2%2
	}
	e.tags[0] = 3 // so that e has no more runs than a map may have
	checkEqualAndDiff(t, d, e, d.build(t), e.build(t))
	if n := len(d.changes(e)); n <= api.MaxRuns {
		t.Errorf("there are only %d changes", n)
	}
}

func TestDiffDividesByBothTags(t *testing.T) {
	a := model{[]int{0, 0, 1, 1, 1, 2, 2}, 1}
	b := model{[]int{0, 5, 5, 5, 1, 1, 1}, 1}
	changes, err := span.Diff(a.build(t), b.build(t))
	checkChanges(t, "Diff", changes, err, []api.Change{{Lo: 1, Hi: 2, From: 0, To: 5}, {Lo: 2, Hi: 4, From: 1, To: 5}, {Lo: 5, Hi: 7, From: 2, To: 1}}, api.OK)
}
