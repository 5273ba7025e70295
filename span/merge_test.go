package span_test

import (
	"math/rand/v2"
	"testing"

	"guilloche/api"
	"guilloche/span"
)

// merge performs Merge on cells.
func merge(base, a, b model) (model, []api.Change) {
	out := base.clone()
	var conflicts []api.Change
	for i, old := range base.tags {
		x, y := a.tags[i], b.tags[i]
		if x == y {
			out.tags[i] = x
		} else if x == old {
			out.tags[i] = y
		} else if y == old {
			out.tags[i] = x
		} else {
			conflicts = extend(conflicts, api.Change{Lo: i * base.cell, Hi: (i + 1) * base.cell, From: x, To: y})
		}
	}
	return out, conflicts
}

func checkMerge(t *testing.T, base, a, b model) {
	t.Helper()
	wantMap, wantConflicts := merge(base, a, b)
	m, conflicts, err := span.Merge(base.build(t), a.build(t), b.build(t))
	if len(wantMap.all()) > api.MaxRuns {
		checkNoMap(t, "Merge", m, err, api.ErrFull)
		checkChanges(t, "Merge", conflicts, err, nil, api.ErrFull)
		return
	}
	checkMap(t, "Merge", m, err, wantMap)
	checkChanges(t, "Merge", conflicts, err, wantConflicts, api.OK)
}

func TestMerge(t *testing.T) {
	r := rand.New(rand.NewPCG(3, 7))
	for _, base := range models() {
		for ranges := range 8 {
			checkMerge(t, base, base.mutate(r, ranges), base.mutate(r, ranges))
		}
		other := randomModel(r, len(base.tags), base.cell, 4)
		checkMerge(t, base, other, randomModel(r, len(base.tags), base.cell, 4))
		checkMerge(t, base, other, other)
	}
}

// All triples of small maps.
func TestMergeOfSmallMaps(t *testing.T) {
	list := smallModels(2, 4)
	for _, base := range list {
		for _, a := range list {
			for _, b := range list {
				checkMerge(t, base, a, b)
			}
		}
	}
}

func TestMergeExamples(t *testing.T) {
	base, _ := span.New(4)
	a, _ := base.Set(0, 2, 1)
	b, _ := base.Set(1, 3, 2)
	m, conflicts, err := span.Merge(base, a, b)
	checkMap(t, "Merge", m, err, model{[]int{1, 0, 2, 0}, 1})
	checkChanges(t, "Merge", conflicts, err, []api.Change{{Lo: 1, Hi: 2, From: 1, To: 2}}, api.OK)

	// A conflict goes on where only the tag in base changes, and ends where one of the others does.
	m, conflicts, err = span.Merge(
		model{[]int{0, 1, 1, 0, 0, 0}, 1}.build(t),
		model{[]int{2, 2, 2, 2, 0, 2}, 1}.build(t),
		model{[]int{3, 3, 4, 4, 4, 4}, 1}.build(t))
	checkMap(t, "Merge", m, err, model{[]int{0, 1, 1, 0, 4, 0}, 1})
	checkChanges(t, "Merge", conflicts, err, []api.Change{{Lo: 0, Hi: 2, From: 2, To: 3}, {Lo: 2, Hi: 4, From: 2, To: 4}, {Lo: 5, Hi: 6, From: 2, To: 4}}, api.OK)
}

func TestMergeOfOtherSizes(t *testing.T) {
	small, _ := span.New(10)
	great, _ := span.New(11)
	for i := range 6 { // all but those of equal sizes
		use := func(bit int) span.Map { return []span.Map{small, great}[(i+1)>>bit&1] }
		m, conflicts, err := span.Merge(use(0), use(1), use(2))
		checkNoMap(t, "Merge", m, err, api.ErrArg)
		checkChanges(t, "Merge", conflicts, err, nil, api.ErrArg)
	}
}

// comb returns d with the tag 1 for so many pieces, of which each second one from lo on is one.
func (d model) comb(lo, teeth int) model {
	out := d.clone()
	for i := range teeth {
		out.tags[lo+2*i+1] = 1
	}
	return out
}

func TestMergeOfManyRuns(t *testing.T) {
	const most = api.MaxRuns
	base := model{make([]int, 2*most), 1}
	for _, c := range []struct {
		teethA, teethB, end, len int
	}{
		{1000, 1047, 0, most - 1},
		{1000, 1047, 5, most},
		{1000, 1048, 0, most + 1},
		{1000, 1048, 5, most + 2},
		{2047, 2047, 0, 2*most - 3},
	} {
		a, b := base.comb(0, c.teethA), base.comb(most, c.teethB)
		b.tags[2*most-1] = c.end
		if want, _ := merge(base, a, b); len(want.all()) != c.len {
			t.Fatalf("%v: the model has %d runs", c, len(want.all()))
		}
		checkMerge(t, base, a, b)
		checkMerge(t, base, b, a)
	}
	full := stripes(most)
	checkMerge(t, base, full, base)
	checkMerge(t, full, base, full)
	checkMerge(t, full, base, base)
	checkMerge(t, full, base, full.set(4000, 4002, 2))
	checkMerge(t, full, full.set(4000, 4001, 1), full.set(0, 2, 2))
}
