package span_test

import (
	"math/rand/v2"
	"slices"
	"testing"

	"guilloche/api"
	"guilloche/span"
)

// Each version answers as it did before.
func TestVersions(t *testing.T) {
	r := rand.New(rand.NewPCG(3, 8))
	for _, cell := range []int{1, api.MaxPieces / 40} {
		models := []model{{make([]int, 40), cell}}
		maps := []span.Map{models[0].build(t)}
		for range 200 {
			at := r.IntN(len(maps)) // any version may be updated, not only the last one
			next, d := update(t, r, maps[at], models[at])
			maps, models = append(maps, next), append(models, d)
		}
		for i := range maps {
			checkMap(t, "a version", maps[i], api.OK, models[i])
		}
	}
}

// update performs a random update of m, whose model is d.
func update(t *testing.T, r *rand.Rand, m span.Map, d model) (span.Map, model) {
	t.Helper()
	lo, hi := randomRange(r, len(d.tags))
	from, to := r.IntN(4), r.IntN(4)
	var next span.Map
	var err api.Errno
	switch r.IntN(4) {
	case 0:
		next, err = m.Set(lo*d.cell, hi*d.cell, to)
		d = d.set(lo, hi, to)
	case 1:
		next, _, err = m.Swap(lo*d.cell, hi*d.cell, from, to)
		d, _ = d.swap(lo, hi, from, to)
	case 2:
		e := d.mutate(r, 3)
		next, err = span.Apply(m, d.changes(e))
		d = e
	case 3:
		a, b := d.mutate(r, 3), d.mutate(r, 3)
		next, _, err = span.Merge(m, a.build(t), b.build(t))
		d, _ = merge(d, a, b)
	}
	if err != api.OK {
		t.Fatalf("an update = %d", err)
	}
	return next, d
}

func TestFindAndCountAreInverse(t *testing.T) {
	r := rand.New(rand.NewPCG(3, 9))
	for _, d := range models() {
		m := d.build(t)
		for range 20 {
			at := r.IntN(d.size())
			tag, _ := m.Get(at)
			k, err := m.Count(0, at, tag)
			if err != api.OK {
				t.Errorf("Count = %d", err)
			}
			checkFind(t, m, tag, k, at, true)
			checkFind(t, m, tag, k+d.size(), 0, false)
		}
	}
}

func TestApplyOfDiff(t *testing.T) {
	r := rand.New(rand.NewPCG(3, 10))
	for _, d := range models() {
		e := d.mutate(r, 5)
		a, b := d.build(t), e.build(t)
		changes, _ := span.Diff(a, b)
		got, err := span.Apply(a, changes)
		checkMap(t, "Apply of Diff", got, err, e)
		if !span.Equal(got, b) {
			t.Error("Apply of Diff is not equal")
		}
	}
}

func TestMergeLaws(t *testing.T) {
	r := rand.New(rand.NewPCG(3, 11))
	for _, d := range models() {
		base, a, b := d.build(t), d.mutate(r, 5).build(t), d.mutate(r, 5).build(t)
		got, conflicts, err := span.Merge(base, a, base)
		if !span.Equal(got, a) || len(conflicts) != 0 || err != api.OK {
			t.Errorf("the merge with base: %v, %d", conflicts, err)
		}
		got, conflicts, _ = span.Merge(base, a, b)
		mirror, others, _ := span.Merge(base, b, a)
		for i, c := range others {
			others[i].From, others[i].To = c.To, c.From
		}
		if !span.Equal(got, mirror) || !slices.Equal(conflicts, others) {
			t.Errorf("merges in both orders: %v and %v", conflicts, others)
		}
	}
}

// Maps that are equal have the same runs, whatever the order of the updates that led to them.
func TestOrderOfUpdates(t *testing.T) {
	r := rand.New(rand.NewPCG(3, 12))
	for _, d := range models() {
		parts := make([]int, len(d.tags))
		for i := range parts {
			parts[i] = i
		}
		want := d.build(t)
		for range 4 {
			r.Shuffle(len(parts), func(i, k int) { parts[i], parts[k] = parts[k], parts[i] })
			m, _ := span.New(d.size())
			for _, i := range parts {
				m, _ = m.Set(i*d.cell, (i+1)*d.cell, d.tags[i])
			}
			checkMap(t, "updates in any order", m, api.OK, d)
			if !span.Equal(m, want) || !span.Equal(want, m) {
				t.Error("updates in any order lead to different maps")
			}
		}
	}
}
