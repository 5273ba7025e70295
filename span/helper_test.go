package span_test

import (
	"math"
	"math/rand/v2"
	"slices"
	"testing"

	"guilloche/api"
	"guilloche/span"
)

// The tests compute what they expect cell by cell. A cell is a range of pieces that have the same tag, with the same length for all cells of a map, so that great maps can be computed as well.

// model is a map: the tags of its cells, and how many pieces a cell has.
type model struct {
	tags []int
	cell int
}

func (d model) size() int { return len(d.tags) * d.cell }

func (d model) clone() model { return model{slices.Clone(d.tags), d.cell} }

// runs returns the runs of the range from cell lo to cell hi.
func (d model) runs(lo, hi int) []api.Run {
	var out []api.Run
	for i := lo; i < hi; i++ {
		if i > lo && d.tags[i] == d.tags[i-1] {
			out[len(out)-1].Hi += d.cell
			continue
		}
		out = append(out, api.Run{Lo: i * d.cell, Hi: (i + 1) * d.cell, Tag: d.tags[i]})
	}
	return out
}

func (d model) all() []api.Run { return d.runs(0, len(d.tags)) }

// build returns the map, without the functions that update one.
func (d model) build(t *testing.T) span.Map {
	t.Helper()
	m, err := span.From(d.size(), d.all())
	if err != api.OK {
		t.Fatalf("From(%d, %v) = %d", d.size(), few(d.all()), err)
	}
	return m
}

// models returns maps of several sizes with random tags, from few runs to many ones.
func models() []model {
	r := rand.New(rand.NewPCG(3, 1))
	var out []model
	for _, cells := range []int{1, 2, 3, 8, 20, 64} {
		for _, cell := range []int{1, 5, api.MaxPieces / 64} {
			for _, tags := range []int{1, 2, 3, api.MaxTags} {
				out = append(out, randomModel(r, cells, cell, tags))
			}
		}
	}
	return out
}

func randomModel(r *rand.Rand, cells, cell, tags int) model {
	d := model{make([]int, cells), cell}
	for i := range d.tags {
		d.tags[i] = r.IntN(tags)
		if i > 0 && r.IntN(3) == 0 {
			d.tags[i] = d.tags[i-1]
		}
	}
	return d
}

// randomRange returns the ends of a range of cells.
func randomRange(r *rand.Rand, cells int) (int, int) {
	lo, hi := r.IntN(cells+1), r.IntN(cells+1)
	return min(lo, hi), max(lo, hi)
}

// stripes returns so many runs of two pieces, with the tags 0 and 1 in turn.
func stripes(n int) model {
	d := model{make([]int, 2*n), 1}
	for i := range d.tags {
		d.tags[i] = i / 2 % 2
	}
	return d
}

// badRanges returns ranges that are not valid for a map of that size.
func badRanges(size int) [][2]int {
	return [][2]int{{-1, 0}, {-1, size}, {0, size + 1}, {size, size + 1}, {size + 1, size + 1}, {1, 0}, {size, size - 1}, {-2, -1}, {0, -1},
		{math.MinInt, math.MaxInt}, {math.MinInt, math.MinInt}, {math.MaxInt, math.MaxInt}, {math.MaxInt, math.MinInt}, {0, math.MaxInt}, {math.MinInt, 0}, {0, math.MinInt}, {math.MaxInt, 0}}
}

func badTags() []int { return []int{-1, api.MaxTags, math.MinInt, math.MaxInt} }

// checkMap checks all that a map answers by itself.
func checkMap(t *testing.T, call string, m span.Map, err api.Errno, want model) {
	t.Helper()
	if err != api.OK {
		t.Errorf("%s = %d", call, err)
		return
	}
	runs := want.all()
	if m.Size() != want.size() || m.Len() != len(runs) {
		t.Errorf("%s: Size %d, Len %d; not %d, %d", call, m.Size(), m.Len(), want.size(), len(runs))
	}
	got, err := m.Runs(0, m.Size(), math.MaxInt)
	if !slices.Equal(got, runs) || err != api.OK {
		t.Errorf("%s: the runs are %v, %d; not %v", call, few(got), err, few(runs))
	}
	for i, tag := range want.tags {
		for _, at := range []int{i * want.cell, (i+1)*want.cell - 1} {
			n, err := m.Get(at)
			checkInt(t, call+": Get", n, err, tag, api.OK)
		}
	}
}

// checkNoMap checks a map that is returned with an error.
func checkNoMap(t *testing.T, call string, m span.Map, err, want api.Errno) {
	t.Helper()
	if m != (span.Map{}) || m.Size() != 0 || m.Len() != 0 || err != want {
		t.Errorf("%s has the size %d, %d; not an unusable map, %d", call, m.Size(), err, want)
	}
}

// few returns the first elements of a list, to be printed.
func few[T any](list []T) []T { return list[:min(len(list), 20)] }

func checkInt(t *testing.T, call string, got int, err api.Errno, want int, wantErr api.Errno) {
	t.Helper()
	if got != want || err != wantErr {
		t.Errorf("%s = %d, %d; not %d, %d", call, got, err, want, wantErr)
	}
}

func checkRuns(t *testing.T, call string, got []api.Run, err api.Errno, want []api.Run, wantErr api.Errno) {
	t.Helper()
	if !slices.Equal(got, want) || err != wantErr {
		t.Errorf("%s = %v, %d; not %v, %d", call, few(got), err, few(want), wantErr)
	}
}

func checkChanges(t *testing.T, call string, got []api.Change, err api.Errno, want []api.Change, wantErr api.Errno) {
	t.Helper()
	if !slices.Equal(got, want) || err != wantErr {
		t.Errorf("%s = %v, %d; not %v, %d", call, few(got), err, few(want), wantErr)
	}
}
