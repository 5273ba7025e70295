package span_test

import (
	"math"
	"math/rand/v2"
	"testing"

	"guilloche/api"
	"guilloche/span"
)

// clip cuts the runs of a map to the pieces of a range.
func clip(runs []api.Run, lo, hi int) []api.Run {
	var out []api.Run
	for _, run := range runs {
		run.Lo, run.Hi = max(run.Lo, lo), min(run.Hi, hi)
		if run.Lo < run.Hi {
			out = append(out, run)
		}
	}
	return out
}

// randomPieces returns the ends of a range of pieces.
func randomPieces(r *rand.Rand, size int) (int, int) {
	lo, hi := r.IntN(size+1), r.IntN(size+1)
	return min(lo, hi), max(lo, hi)
}

func TestRuns(t *testing.T) {
	r := rand.New(rand.NewPCG(3, 3))
	for _, d := range models() {
		m := d.build(t)
		for i := range 40 {
			lo, hi := randomPieces(r, d.size())
			if i%2 == 0 { // ends of runs
				lo, hi = randomRange(r, len(d.tags))
				lo, hi = lo*d.cell, hi*d.cell
			}
			want := clip(d.all(), lo, hi)
			for _, most := range []int{0, 1, 2, len(want) - 1, len(want), len(want) + 1, -1, math.MinInt, math.MaxInt} {
				got, err := m.Runs(lo, hi, most)
				checkRuns(t, "Runs", got, err, want[:max(0, min(most, len(want)))], api.OK)
			}
		}
	}
}

func TestRunsAreNewMemory(t *testing.T) {
	d := stripes(5)
	m := d.build(t)
	runs, _ := m.Runs(0, d.size(), 9)
	clear(runs)
	checkMap(t, "the map after its runs were changed", m, api.OK, d)
}

func TestRunsErrors(t *testing.T) {
	d := stripes(5)
	m := d.build(t)
	for _, c := range badRanges(d.size()) {
		for _, most := range []int{-1, 0, 9} {
			got, err := m.Runs(c[0], c[1], most)
			checkRuns(t, "Runs", got, err, nil, api.ErrRange)
		}
	}
}

func TestCount(t *testing.T) {
	r := rand.New(rand.NewPCG(3, 4))
	for _, d := range models() {
		m := d.build(t)
		for range 20 {
			lo, hi := randomPieces(r, d.size())
			var want [api.MaxTags]int
			for _, run := range clip(d.all(), lo, hi) {
				want[run.Tag] += run.Hi - run.Lo
			}
			total := 0
			for tag, n := range want {
				got, err := m.Count(lo, hi, tag)
				checkInt(t, "Count", got, err, n, api.OK)
				total += got
			}
			checkInt(t, "the sum of Counts", total, api.OK, hi-lo, api.OK)
		}
	}
}

func TestCountErrors(t *testing.T) {
	d := stripes(5)
	m := d.build(t)
	for _, tag := range append(badTags(), 0, 1) { // ErrRange comes before ErrArg
		for _, c := range badRanges(d.size()) {
			got, err := m.Count(c[0], c[1], tag)
			checkInt(t, "Count", got, err, 0, api.ErrRange)
		}
	}
	for _, tag := range badTags() {
		for _, c := range [][2]int{{0, 0}, {10, 10}, {3, 7}} {
			got, err := m.Count(c[0], c[1], tag)
			checkInt(t, "Count", got, err, 0, api.ErrArg)
		}
	}
}

func checkFind(t *testing.T, m span.Map, tag, k, want int, wantOK bool) {
	t.Helper()
	if at, ok := m.Find(tag, k); at != want || ok != wantOK {
		t.Errorf("Find(%d, %d) = %d, %v; not %d, %v", tag, k, at, ok, want, wantOK)
	}
}

func TestFind(t *testing.T) {
	for _, d := range models() {
		m := d.build(t)
		var lower [api.MaxTags]int
		for i, tag := range d.tags {
			for _, k := range []int{0, d.cell / 2, d.cell - 1} {
				checkFind(t, m, tag, lower[tag]+k, i*d.cell+k, true)
			}
			lower[tag] += d.cell
		}
		for tag, n := range lower {
			for _, k := range []int{n, n + 1, -1, math.MinInt, math.MaxInt} {
				checkFind(t, m, tag, k, 0, false)
			}
		}
		for _, tag := range badTags() {
			for _, k := range []int{0, -1, math.MaxInt} {
				checkFind(t, m, tag, k, 0, false)
			}
		}
	}
}

func TestExample(t *testing.T) {
	m, _ := span.New(10)
	m, err := m.Set(2, 5, 1)
	checkMap(t, "Set", m, err, model{[]int{0, 0, 1, 1, 1, 0, 0, 0, 0, 0}, 1})
	runs, err := m.Runs(0, 10, 99)
	checkRuns(t, "Runs", runs, err, []api.Run{{Lo: 0, Hi: 2, Tag: 0}, {Lo: 2, Hi: 5, Tag: 1}, {Lo: 5, Hi: 10, Tag: 0}}, api.OK)
	checkFind(t, m, 1, 2, 4, true)
	n, err := m.Count(0, 4, 1)
	checkInt(t, "Count", n, err, 2, api.OK)
}
