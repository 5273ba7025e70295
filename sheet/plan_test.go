package sheet_test

import (
	"math/rand/v2"
	"slices"
	"testing"

	"guilloche/api"
	"guilloche/sheet"
)

func isSame(a, b api.Repair) bool {
	return a.Cost == b.Cost && slices.Equal(a.Reprint, b.Reprint) && slices.Equal(a.Stars, b.Stars) && slices.Equal(a.Open, b.Open)
}

func expectPlan(t *testing.T, d damaged, want api.Repair) {
	t.Helper()
	got, err := sheet.Plan(d.layout, d.sheets, d.spoiled, d.costs)
	if !isSame(got, want) || err != api.OK {
		t.Errorf("Plan(%v, %d, %v, %v) = %v, %d; not %v", d.layout, d.sheets, d.spoiled, d.costs, got, err, want)
	}
}

func expectPrice(t *testing.T, d damaged, reprint []int, want int) {
	t.Helper()
	got, err := sheet.Price(d.layout, d.sheets, d.spoiled, d.costs, reprint)
	if got != want || err != api.OK {
		t.Errorf("Price(%v, %d, %v, %v, %v) = %d, %d; not %d", d.layout, d.sheets, d.spoiled, d.costs, reprint, got, err, want)
	}
}

// onSheet returns one sheet with three spoiled cells in three bundles.
func onSheet(costs api.Costs) damaged {
	m := newModel(api.Layout{Rows: 2, Cols: 2, Ream: 3, Bundle: 2}, 5)
	return damaged{m, []api.Cell{{Sheet: 1, Pos: 2}, {Sheet: 1, Pos: 0}, {Sheet: 1, Pos: 3}}, costs}
}

func TestPlanExample(t *testing.T) {
	d := onSheet(api.Costs{Reprint: 10, Star: 2, Open: 1})
	expectPlan(t, d, api.Repair{Cost: 9, Stars: []int{1, 7, 10}, Open: []int{0, 4, 6}})
	expectPrice(t, d, nil, 9)
	expectPrice(t, d, []int{1}, 10)
	d.costs.Reprint = 9 // Both repairs cost as much: nothing is printed again.
	expectPlan(t, d, api.Repair{Cost: 9, Stars: []int{1, 7, 10}, Open: []int{0, 4, 6}})
	d.costs.Reprint = 8
	expectPlan(t, d, api.Repair{Cost: 8, Reprint: []int{1}})
}

// Two sheets share a bundle, which remains closed only if both are printed again.
func TestPlanOfSharedBundle(t *testing.T) {
	m := newModel(api.Layout{Rows: 1, Cols: 2, Ream: 4, Bundle: 4}, 4)
	d := damaged{m, []api.Cell{{Sheet: 3, Pos: 0}, {Sheet: 0, Pos: 0}}, api.Costs{Reprint: 5, Star: 2, Open: 7}}
	expectPlan(t, d, api.Repair{Cost: 10, Reprint: []int{0, 3}})
	expectPrice(t, d, []int{0}, 14)
	expectPrice(t, d, []int{3, 3, 3}, 14)
	expectPrice(t, d, []int{3, 0, 2, 3}, 15)
	d.costs.Open = 6
	expectPlan(t, d, api.Repair{Cost: 10, Stars: []int{0, 3}, Open: []int{0}})
}

func TestPlanOfNothing(t *testing.T) {
	for _, sheets := range []int{0, 5} {
		d := damaged{newModel(good, sheets), nil, api.Costs{Reprint: 3, Star: 4, Open: 5}}
		expectPlan(t, d, api.Repair{})
		expectPrice(t, d, nil, 0)
		d.spoiled = []api.Cell{}
		expectPlan(t, d, api.Repair{})
		expectPrice(t, d, []int{}, 0)
	}
	expectPrice(t, damaged{newModel(good, 5), nil, api.Costs{Reprint: 3}}, []int{4, 0, 4}, 6)
}

// Sets of up to three spoiled cells with all small costs, against all repairs.
func TestPlanTiny(t *testing.T) {
	for _, down := range []bool{false, true} {
		m := newModel(api.Layout{Rows: 1, Cols: 2, Ream: 3, Bundle: 2, Down: down}, 4)
		for i := range 8 * 8 * 8 {
			d := damaged{model: m, spoiled: []api.Cell{m.cells[i%8], m.cells[i/8%8], m.cells[i/64]}}
			for price := range 4 * 3 * 4 {
				d.costs = api.Costs{Reprint: price % 4, Star: price / 4 % 3, Open: price / 12}
				expectPlan(t, d, d.best())
			}
		}
	}
}

// Random damages of few sheets, against all repairs.
func TestPlanSmall(t *testing.T) {
	r := rand.New(rand.NewPCG(5, 1))
	for i, m := range smallModels() {
		if m.sheets == 0 {
			continue
		}
		d := m.spoil(r, r.IntN(3*m.sheets+1), 8, randomCosts(r, 1+i%5))
		expectPlan(t, d, d.best())
	}
}

// Random damages of many sheets but few bundles, against all sets of bundles.
func TestPlanOfManySheets(t *testing.T) {
	r := rand.New(rand.NewPCG(5, 2))
	for i := range 40 {
		m := newModel(api.Layout{Rows: 5, Cols: 1, Ream: 90, Bundle: 90, Down: i%2 > 0}, 120)
		d := m.spoil(r, 40+r.IntN(200), 110, randomCosts(r, []int{1, 2, 3, 5, 1 << 16}[i%5]))
		d.costs.Open *= 1 + i%4*5
		expectPlan(t, d, d.bestOfFewBundles())
	}
}

// As many sheets and bundles as a plan may have, and as many cells.
func TestPlanLimits(t *testing.T) {
	l := api.Layout{Rows: 16, Cols: 16, Ream: 100, Bundle: 100}
	const most = 1 << 20
	d := damaged{newModel(l, 300), nil, api.Costs{Reprint: most, Star: most, Open: most}}
	for i := range api.MaxCells {
		d.spoiled = append(d.spoiled, api.Cell{Sheet: 99 + i%106, Pos: i / 106 * 3})
	}
	all := d.repair(nil)
	if len(d.sheetsOf())+len(all.Open) != api.MaxGoods || len(all.Stars) != api.MaxCells {
		t.Fatalf("%d sheets, %d bundles, %d notes", len(d.sheetsOf()), len(all.Open), len(all.Stars))
	}
	expectPrice(t, d, nil, (api.MaxCells+14)*most)
	expectPlan(t, d, d.repair(d.sheetsOf()))
	d.costs.Reprint = 0
	expectPlan(t, d, d.repair(d.sheetsOf()))
	d.costs.Star, d.costs.Open = 0, 0
	expectPlan(t, d, d.repair(nil))
	d.costs.Reprint = most
	expectPlan(t, d, d.repair(nil))
	d.spoiled = slices.Concat(d.spoiled, d.spoiled) // A cell that is given several times counts once.
	expectPlan(t, d, d.repair(nil))
	d.spoiled = append(d.spoiled, api.Cell{Sheet: 198, Pos: 12}) // Its sheet and its bundle have spoiled notes already.
	expectFull(t, d)
}

// The sheets and the bundles together are at most MaxGoods.
func TestPlanOfTooManyGoods(t *testing.T) {
	m := newModel(api.Layout{Rows: 1, Cols: 2, Ream: 200, Bundle: 1}, 200)
	d := damaged{model: m, costs: api.Costs{Reprint: 3, Star: 1, Open: 1}}
	for i := range api.MaxGoods / 2 {
		d.spoiled = append(d.spoiled, api.Cell{Sheet: 3 * i, Pos: i % 2})
	}
	expectPlan(t, d, d.repair(nil))
	expectPrice(t, d, []int{0, 1}, d.repair([]int{0, 1}).Cost)
	full := d
	full.spoiled = append(slices.Clone(d.spoiled), api.Cell{Sheet: 0, Pos: 1}) // One more bundle.
	expectFull(t, full)

	d.model = newModel(api.Layout{Rows: 1, Cols: 2, Ream: 200, Bundle: 200}, 200)
	d.spoiled = nil
	for i := range api.MaxGoods - 1 {
		d.spoiled = append(d.spoiled, api.Cell{Sheet: i + 1, Pos: 0})
	}
	expectPlan(t, d, d.repair(nil))
	full = d
	full.spoiled = append(slices.Clone(d.spoiled), api.Cell{Sheet: 0, Pos: 0}) // One more sheet.
	expectFull(t, full)
	full.spoiled = append(slices.Clone(d.spoiled), api.Cell{Sheet: 1, Pos: 1}) // One more bundle.
	expectFull(t, full)
}

func expectFull(t *testing.T, d damaged) {
	t.Helper()
	expectPlanError(t, d, api.ErrFull)
	expectPriceError(t, d, nil, api.ErrFull)
	expectPriceError(t, d, d.sheetsOf(), api.ErrFull)
}

func expectPlanError(t *testing.T, d damaged, want api.Errno) {
	t.Helper()
	got, err := sheet.Plan(d.layout, d.sheets, d.spoiled, d.costs)
	if !isSame(got, api.Repair{}) || err != want {
		t.Errorf("Plan(%v, %d, .., %v) = %v, %d; not %d", d.layout, d.sheets, d.costs, got, err, want)
	}
}

func expectPriceError(t *testing.T, d damaged, reprint []int, want api.Errno) {
	t.Helper()
	got, err := sheet.Price(d.layout, d.sheets, d.spoiled, d.costs, reprint)
	if got != 0 || err != want {
		t.Errorf("Price(%v, %d, .., %v, ..) = %d, %d; not %d", d.layout, d.sheets, d.costs, got, err, want)
	}
}
