package span_test

import (
	"math"
	"slices"
	"testing"

	"guilloche/api"
	"guilloche/span"
)

func TestNew(t *testing.T) {
	for _, size := range []int{1, 2, 10, api.MaxPieces - 1, api.MaxPieces} {
		m, err := span.New(size)
		checkMap(t, "New", m, err, model{[]int{0}, size})
	}
	for _, size := range []int{0, -1, api.MaxPieces + 1, math.MinInt, math.MaxInt} {
		m, err := span.New(size)
		checkNoMap(t, "New", m, err, api.ErrArg)
	}
}

func TestFrom(t *testing.T) {
	for _, d := range models() {
		runs := d.all()
		m, err := span.From(d.size(), runs)
		clear(runs) // The map keeps no list that it receives.
		checkMap(t, "From", m, err, d)
	}
	full := stripes(api.MaxRuns)
	m, err := span.From(full.size(), full.all())
	checkMap(t, "From of all runs", m, err, full)
}

func TestFromErrors(t *testing.T) {
	good := []api.Run{{Lo: 0, Hi: 2, Tag: 0}, {Lo: 2, Hi: 5, Tag: 15}, {Lo: 5, Hi: 10, Tag: 0}}
	m, err := span.From(10, good)
	checkMap(t, "From", m, err, model{[]int{0, 0, 15, 15, 15, 0, 0, 0, 0, 0}, 1})
	for _, size := range []int{0, -1, 1, 5, 9, 11, api.MaxPieces, api.MaxPieces + 1, math.MinInt, math.MaxInt} {
		m, err := span.From(size, good)
		checkNoMap(t, "From of a wrong size", m, err, api.ErrArg)
		m, err = span.From(size, nil)
		checkNoMap(t, "From of no runs", m, err, api.ErrArg)
		m, err = span.From(size, []api.Run{{Lo: 0, Hi: size, Tag: 1}})
		if size < 1 || size > api.MaxPieces {
			checkNoMap(t, "From of a wrong size", m, err, api.ErrArg)
		}
	}
	for i, value := range []int{-1, 3, 6, 10, 11, math.MinInt, math.MaxInt} {
		for at := range good {
			bad := slices.Clone(good)
			bad[at].Lo = value
			m, err := span.From(10, bad)
			checkNoMap(t, "From of a wrong Lo", m, err, api.ErrArg)
			bad = slices.Clone(good)
			bad[at].Hi = []int{-1, 1, 6, 0, 11, math.MinInt, math.MaxInt}[i]
			m, err = span.From(10, bad)
			checkNoMap(t, "From of a wrong Hi", m, err, api.ErrArg)
		}
	}
	for _, tag := range badTags() {
		for at := range good {
			bad := slices.Clone(good)
			bad[at].Tag = tag
			m, err := span.From(10, bad)
			checkNoMap(t, "From of a wrong tag", m, err, api.ErrArg)
		}
	}
	for _, bad := range [][]api.Run{
		nil,
		{},
		good[1:],
		good[:2],
		{good[0], good[2]},
		{good[1], good[0], good[2]},
		{{Lo: 0, Hi: 5, Tag: 1}, {Lo: 5, Hi: 10, Tag: 1}},                         // neighbors are equal
		{{Lo: 0, Hi: 5, Tag: 1}, {Lo: 5, Hi: 5, Tag: 0}, {Lo: 5, Hi: 10, Tag: 1}}, // one is empty
		{{Lo: 0, Hi: 0, Tag: 1}, {Lo: 0, Hi: 10, Tag: 0}},
		{{Lo: 0, Hi: 10, Tag: 1}, {Lo: 10, Hi: 10, Tag: 0}},
		{{Lo: 0, Hi: 6, Tag: 1}, {Lo: 5, Hi: 10, Tag: 0}}, // they overlap
		{{Lo: 0, Hi: 4, Tag: 1}, {Lo: 5, Hi: 10, Tag: 0}}, // there is a gap
		{{Lo: 0, Hi: 12, Tag: 1}, {Lo: 12, Hi: 10, Tag: 0}},
		{{Lo: 1, Hi: 10, Tag: 1}},
		{{Lo: 0, Hi: 9, Tag: 1}},
	} {
		m, err := span.From(10, bad)
		checkNoMap(t, "From of wrong runs", m, err, api.ErrArg)
	}
}

func TestFromTooManyRuns(t *testing.T) {
	for _, n := range []int{api.MaxRuns + 1, 3 * api.MaxRuns} {
		d := stripes(n)
		m, err := span.From(d.size(), d.all())
		checkNoMap(t, "From of too many runs", m, err, api.ErrFull)
		// ErrArg comes before ErrFull, wherever the wrong run is.
		for _, at := range []int{0, n / 2, n - 1} {
			runs := d.all()
			runs[at].Tag = api.MaxTags
			m, err := span.From(d.size(), runs)
			checkNoMap(t, "From of a wrong run among too many", m, err, api.ErrArg)
		}
		m, err = span.From(d.size()+1, d.all())
		checkNoMap(t, "From of too many runs of a wrong size", m, err, api.ErrArg)
	}
}

func TestUnusable(t *testing.T) {
	var none span.Map
	checkNoMap(t, "the zero value", none, api.OK, api.OK)
	good, _ := span.New(10)
	for _, n := range []int{-1, 0, 1, 99} { // ErrUnusable comes before all others
		tag, err := none.Get(n)
		checkInt(t, "Get", tag, err, 0, api.ErrUnusable)
		m, err := none.Set(0, n, n)
		checkNoMap(t, "Set", m, err, api.ErrUnusable)
		m, count, err := none.Swap(0, n, n, n)
		checkNoMap(t, "Swap", m, err, api.ErrUnusable)
		checkInt(t, "Swap", count, err, 0, api.ErrUnusable)
		runs, err := none.Runs(0, n, n)
		checkRuns(t, "Runs", runs, err, nil, api.ErrUnusable)
		count, err = none.Count(0, n, n)
		checkInt(t, "Count", count, err, 0, api.ErrUnusable)
		m, err = span.Apply(none, []api.Change{{Lo: n}})
		checkNoMap(t, "Apply", m, err, api.ErrUnusable)
		if at, ok := none.Find(0, n); at != 0 || ok {
			t.Errorf("Find = %d, %v", at, ok)
		}
	}
	m, err := span.Apply(none, nil)
	checkNoMap(t, "Apply", m, err, api.ErrUnusable)
	for i := range 7 { // all but three usable maps
		use := func(bit int) span.Map { return []span.Map{none, good}[i>>bit&1] }
		m, conflicts, err := span.Merge(use(0), use(1), use(2))
		checkNoMap(t, "Merge", m, err, api.ErrUnusable)
		checkChanges(t, "Merge", conflicts, err, nil, api.ErrUnusable)
		if i < 3 {
			changes, err := span.Diff(use(0), use(1))
			checkChanges(t, "Diff", changes, err, nil, api.ErrUnusable)
		}
	}
	if !span.Equal(none, none) || span.Equal(none, good) || span.Equal(good, none) {
		t.Error("Equal of unusable maps")
	}
}
