package sheet_test

import (
	"math/rand/v2"
	"slices"
	"testing"

	"guilloche/api"
	"guilloche/sheet"
)

// The greatest print run that has one: the notes of each stack follow one another, and so do the bundles.
func TestStacksAndBundlesFollowOneAnother(t *testing.T) {
	const sheets = api.MaxSheets
	l := api.Layout{Rows: 16, Cols: 16, Ream: 10000, Bundle: 1000}
	for _, l.Down = range []bool{false, true} {
		next := 0
		for first := 0; first < sheets; first += l.Ream {
			last := min(first+l.Ream, sheets)
			for pos := range 256 {
				lo, hi, err := sheet.Stack(l, sheets, first, last, pos)
				if lo != next || hi != next+last-first || err != api.OK {
					t.Fatalf("Stack(%d, %d, %d) = %d, %d, %d", first, last, pos, lo, hi, err)
				}
				next = hi
			}
		}
		next = 0
		bundles, _ := sheet.Bundles(l, sheets)
		for bundle := range bundles {
			lo, hi, err := sheet.Bundle(l, sheets, bundle)
			if lo != next || hi <= lo || hi > lo+l.Bundle || err != api.OK {
				t.Fatalf("Bundle(%d) = %d, %d, %d", bundle, lo, hi, err)
			}
			expectBundleOf(t, l, sheets, lo, bundle)
			expectBundleOf(t, l, sheets, hi-1, bundle)
			next = hi
		}
		expectNotes(t, l, sheets, next)
	}
}

func TestNoteAndCellAreInverse(t *testing.T) {
	r := rand.New(rand.NewPCG(5, 3))
	for range 20000 {
		l := api.Layout{Rows: 1 + r.IntN(16), Cols: 1 + r.IntN(16), Ream: 1 + r.IntN(10000), Bundle: 1 + r.IntN(1000), Down: r.IntN(2) > 0}
		sheets := 1 + r.IntN(api.MaxSheets)
		notes, _ := sheet.Notes(l, sheets)
		note := r.IntN(notes)
		c, _ := sheet.Cell(l, sheets, note)
		expectNote(t, l, sheets, c, note)
	}
}

// No repair costs less than the planned one; what it prints again, in any order, costs what it says.
func TestPlanIsCheapest(t *testing.T) {
	r := rand.New(rand.NewPCG(5, 4))
	for i := range 60 {
		m := newModel(api.Layout{Rows: 4, Cols: 4, Ream: 80, Bundle: 20, Down: i%2 > 0}, 100)
		d := m.spoil(r, 60, 40, randomCosts(r, 8))
		plan, err := sheet.Plan(d.layout, d.sheets, d.spoiled, d.costs)
		if err != api.OK || !isSame(plan, d.repair(plan.Reprint)) {
			t.Fatalf("Plan = %v, %d", plan, err)
		}
		slices.Reverse(plan.Reprint)
		expectPrice(t, d, plan.Reprint, plan.Cost)
		for range 30 {
			other := change(r, plan.Reprint, d.sheetsOf())
			want := d.repair(other)
			expectPrice(t, d, other, want.Cost)
			isWithin := !slices.ContainsFunc(plan.Reprint, func(sheet int) bool { return !slices.Contains(other, sheet) })
			if want.Cost < plan.Cost || want.Cost == plan.Cost && !isWithin {
				t.Errorf("%v costs %d; %v costs %d", other, want.Cost, plan.Reprint, plan.Cost)
			}
		}
	}
}

// change returns a list with some sheets of the first list and some of the second one, which may be in it several times.
func change(r *rand.Rand, first, second []int) []int {
	out := []int{}
	for _, sheet := range first {
		if r.IntN(5) > 0 {
			out = append(out, sheet)
		}
	}
	for range r.IntN(4) {
		out = append(out, second[r.IntN(len(second))])
	}
	return out
}

// A long list with few cells is no error, nor is one with all sheets.
func TestLongLists(t *testing.T) {
	d := onSheet(api.Costs{Reprint: 8, Star: 2, Open: 1})
	d.spoiled = slices.Repeat(d.spoiled, 100000)
	expectPlan(t, d, api.Repair{Cost: 8, Reprint: []int{1}})
	expectPrice(t, d, slices.Repeat([]int{1, 0, 1}, 100000), 16)
	d.spoiled = append(d.spoiled, api.Cell{Sheet: 5})
	expectPlanError(t, d, api.ErrRange)

	all := make([]int, api.MaxSheets)
	for sheet := range all {
		all[sheet] = sheet
	}
	got, err := sheet.Price(good, api.MaxSheets, []api.Cell{{Sheet: 3, Pos: 3}}, api.Costs{Reprint: 1 << 20}, all)
	if got != 1<<40 || err != api.OK {
		t.Errorf("Price of all sheets = %d, %d", got, err)
	}
}

func TestRepairKeepsAndSharesNothing(t *testing.T) {
	r := rand.New(rand.NewPCG(5, 5))
	d := newModel(api.Layout{Rows: 2, Cols: 2, Ream: 9, Bundle: 4}, 30).spoil(r, 20, 20, api.Costs{Reprint: 3, Star: 2, Open: 2})
	spoiled, again := slices.Clone(d.spoiled), []int{7, 3, 7, 1}
	expectPrice(t, d, again, d.repair(again).Cost)
	first, _ := sheet.Plan(d.layout, d.sheets, d.spoiled, d.costs)
	if !slices.Equal(d.spoiled, spoiled) || !slices.Equal(again, []int{7, 3, 7, 1}) {
		t.Error("an argument was changed")
	}
	if len(first.Reprint) == 0 || len(first.Stars) == 0 || len(first.Open) == 0 {
		t.Fatalf("the plan has too little: %v", first)
	}
	for _, list := range [][]int{first.Reprint, first.Stars, first.Open} {
		for i := range list {
			list[i] = -1
		}
		_ = append(list, -1)
	}
	expectPlan(t, d, d.best())
}
