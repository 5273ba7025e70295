package span_test

import (
	"math"
	"math/rand/v2"
	"testing"

	"guilloche/api"
	"guilloche/span"
)

// set performs Set on cells.
func (d model) set(lo, hi, tag int) model {
	out := d.clone()
	for i := lo; i < hi; i++ {
		out.tags[i] = tag
	}
	return out
}

// swap performs Swap on cells, and returns the number of pieces.
func (d model) swap(lo, hi, from, to int) (model, int) {
	out, count := d.clone(), 0
	for i := lo; i < hi; i++ {
		if d.tags[i] == from {
			out.tags[i] = to
			count += d.cell
		}
	}
	return out, count
}

func TestGet(t *testing.T) {
	m, _ := span.From(10, []api.Run{{Lo: 0, Hi: 9, Tag: 3}, {Lo: 9, Hi: 10, Tag: 15}})
	for at, want := range map[int]int{0: 3, 5: 3, 8: 3, 9: 15} {
		tag, err := m.Get(at)
		checkInt(t, "Get", tag, err, want, api.OK)
	}
	for _, at := range []int{-1, 10, 11, math.MinInt, math.MaxInt} {
		tag, err := m.Get(at)
		checkInt(t, "Get", tag, err, 0, api.ErrRange)
	}
}

func TestSetAndSwap(t *testing.T) {
	r := rand.New(rand.NewPCG(3, 2))
	for _, d := range models() {
		m := d.build(t)
		for range 60 {
			lo, hi := randomRange(r, len(d.tags))
			from, to := r.IntN(4), r.IntN(4)
			if r.IntN(2) == 0 {
				next, err := m.Set(lo*d.cell, hi*d.cell, to)
				d = d.set(lo, hi, to)
				checkMap(t, "Set", next, err, d)
				m = next
				continue
			}
			next, count, err := m.Swap(lo*d.cell, hi*d.cell, from, to)
			want, wantCount := d.swap(lo, hi, from, to)
			checkMap(t, "Swap", next, err, want)
			checkInt(t, "Swap", count, err, wantCount, api.OK)
			m, d = next, want
		}
	}
}

// All ranges and tags of small maps.
func TestSetAndSwapOfSmallMaps(t *testing.T) {
	for code := range 3 * 3 * 3 * 3 * 3 {
		d := model{[]int{code % 3, code / 3 % 3, code / 9 % 3, code / 27 % 3, code / 81}, 1}
		m := d.build(t)
		for lo := range 6 {
			for hi := lo; hi < 6; hi++ {
				for tags := range 9 {
					from, to := tags/3, tags%3
					next, count, err := m.Swap(lo, hi, from, to)
					want, wantCount := d.swap(lo, hi, from, to)
					checkMap(t, "Swap", next, err, want)
					checkInt(t, "Swap", count, err, wantCount, api.OK)
					next, err = m.Set(lo, hi, to)
					checkMap(t, "Set", next, err, d.set(lo, hi, to))
				}
			}
		}
	}
}

func TestSetAndSwapErrors(t *testing.T) {
	d := model{[]int{0, 1, 1, 2, 0}, 2}
	m := d.build(t)
	for _, c := range badRanges(d.size()) {
		for _, tag := range append(badTags(), 0, 15) { // ErrRange comes before ErrArg
			next, err := m.Set(c[0], c[1], tag)
			checkNoMap(t, "Set", next, err, api.ErrRange)
			next, count, err := m.Swap(c[0], c[1], tag, 1)
			checkNoMap(t, "Swap", next, err, api.ErrRange)
			checkInt(t, "Swap", count, err, 0, api.ErrRange)
		}
	}
	for _, c := range [][2]int{{0, 0}, {3, 3}, {10, 10}, {0, 10}, {3, 4}} { // also of an empty range
		for _, tag := range badTags() {
			next, err := m.Set(c[0], c[1], tag)
			checkNoMap(t, "Set", next, err, api.ErrArg)
			next, count, err := m.Swap(c[0], c[1], tag, 1)
			checkNoMap(t, "Swap from", next, err, api.ErrArg)
			checkInt(t, "Swap from", count, err, 0, api.ErrArg)
			next, count, err = m.Swap(c[0], c[1], 1, tag)
			checkNoMap(t, "Swap to", next, err, api.ErrArg)
			checkInt(t, "Swap to", count, err, 0, api.ErrArg)
		}
	}
	checkMap(t, "the map after errors", m, api.OK, d)
}

func TestSetOfManyRuns(t *testing.T) {
	const most = api.MaxRuns
	for _, c := range []struct {
		runs, lo, hi, tag, len int
	}{
		{most, 4000, 4001, 2, most + 1}, // the first piece of a run
		{most, 4001, 4002, 2, most + 1}, // its last piece
		{most, 4001, 4003, 2, most + 1}, // the last piece of a run, and the first one of the next
		{most, 4000, 4001, 1, most},     // joins the run before
		{most, 4001, 4002, 1, most},     // joins the run after
		{most, 4000, 4002, 2, most},     // a whole run
		{most, 4000, 4002, 1, most - 2}, // joins both
		{most, 4000, 4001, 0, most},     // its own tag
		{most, 0, 1, 1, most + 1},
		{most, 0, 2, 1, most - 1},
		{most, 2*most - 1, 2 * most, 2, most + 1},
		{most, 2*most - 2, 2 * most, 2, most},
		{most, 0, 2 * most, 2, 1},
		{most, 1, 2*most - 1, 2, 3},
		{most, 100, 100, 2, most},
		{most - 1, 4000, 4001, 2, most},
		{most - 1, 0, 1, 2, most},
		{most - 2, 4000, 4001, 2, most - 1},
	} {
		d := stripes(c.runs)
		m := d.build(t)
		want := d.set(c.lo, c.hi, c.tag)
		if n := len(want.all()); n != c.len {
			t.Fatalf("%v: the model has %d runs", c, n)
		}
		next, err := m.Set(c.lo, c.hi, c.tag)
		if c.len > most {
			checkNoMap(t, "Set", next, err, api.ErrFull)
		} else {
			checkMap(t, "Set", next, err, want)
		}
		checkMap(t, "the map after Set", m, api.OK, d)
	}
}

func TestSwapOfManyRuns(t *testing.T) {
	const most = api.MaxRuns
	for _, c := range []struct {
		runs, lo, hi, from, to, len int
	}{
		{most, 0, 2 * most, 0, 1, 1},
		{most, 0, 2 * most, 1, 0, 1},
		{most, 0, 2 * most, 0, 2, most},
		{most, 0, 2 * most, 2, 3, most},
		{most, 1, 2 * most, 0, 2, most + 1},
		{most, 0, 2*most - 1, 1, 2, most + 1},
		{most, 1, 2*most - 1, 2, 3, most},      // divides two runs in vain
		{most, 1, 2*most - 1, 0, 0, most},      // likewise
		{most, 4001, 4005, 0, 2, most + 2},     // two runs are divided
		{most, 4001, 4005, 1, 2, most},         // none is
		{most, 4001, 4005, 0, 1, most},         // both ends are moved
		{most, 4001, 4007, 1, 0, most - 2},     // several runs become one
		{most, 100, 100, 0, 2, most},           // nothing is changed
		{most - 2, 4001, 4005, 0, 2, most},     // two runs are divided
		{most - 1, 4001, 4005, 0, 2, most + 1}, // likewise
	} {
		d := stripes(c.runs)
		m := d.build(t)
		want, wantCount := d.swap(c.lo, c.hi, c.from, c.to)
		if n := len(want.all()); n != c.len {
			t.Fatalf("%v: the model has %d runs", c, n)
		}
		next, count, err := m.Swap(c.lo, c.hi, c.from, c.to)
		if c.len > most {
			checkNoMap(t, "Swap", next, err, api.ErrFull)
			checkInt(t, "Swap", count, err, 0, api.ErrFull)
		} else {
			checkMap(t, "Swap", next, err, want)
			checkInt(t, "Swap", count, err, wantCount, api.OK)
		}
		checkMap(t, "the map after Swap", m, api.OK, d)
	}
}
