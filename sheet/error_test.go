package sheet_test

import (
	"math"
	"slices"
	"testing"

	"guilloche/api"
	"guilloche/sheet"
)

// errorsOf returns the errors of all functions with the parameter sheets, called with arguments that are otherwise out of range or not valid. It also reports whether all other results are zero.
func errorsOf(l api.Layout, sheets, bad int) ([]api.Errno, bool) {
	off := []api.Cell{{Sheet: bad, Pos: bad}}
	costs := api.Costs{Reprint: bad, Star: bad, Open: bad}
	var errs [9]api.Errno
	var numbers [9]int
	var c api.Cell
	var r api.Repair
	numbers[0], errs[0] = sheet.Notes(l, sheets)
	numbers[1], errs[1] = sheet.Note(l, sheets, off[0])
	c, errs[2] = sheet.Cell(l, sheets, bad)
	numbers[2], numbers[3], errs[3] = sheet.Stack(l, sheets, bad, bad, bad)
	numbers[4], errs[4] = sheet.Bundles(l, sheets)
	numbers[5], numbers[6], errs[5] = sheet.Bundle(l, sheets, bad)
	numbers[7], errs[6] = sheet.BundleOf(l, sheets, bad)
	r, errs[7] = sheet.Plan(l, sheets, off, costs)
	numbers[8], errs[8] = sheet.Price(l, sheets, off, costs, []int{bad})
	return errs[:], numbers == [9]int{} && c == api.Cell{} && isSame(r, api.Repair{})
}

func expectErrors(t *testing.T, l api.Layout, sheets, bad int, want api.Errno) {
	t.Helper()
	errs, isZero := errorsOf(l, sheets, bad)
	if !isZero || slices.ContainsFunc(errs, func(err api.Errno) bool { return err != want }) {
		t.Errorf("%v, %d, %d: %v, %v", l, sheets, bad, errs, isZero)
	}
}

// A layout that is not valid is the first error, and a number of sheets that is not valid the second one.
func TestLayoutAndSheets(t *testing.T) {
	for _, l := range badLayouts() {
		for _, sheets := range append(badSheets(), 0, 5) {
			for _, bad := range []int{math.MinInt, -1, 0, math.MaxInt} {
				expectErrors(t, l, sheets, bad, api.ErrLayout)
			}
		}
	}
	for _, sheets := range badSheets() {
		for _, bad := range []int{math.MinInt, -1, 0, math.MaxInt} {
			expectErrors(t, good, sheets, bad, api.ErrArg)
		}
	}
}

func badCosts() []api.Costs {
	var out []api.Costs
	for _, bad := range outside(1<<20 + 1) {
		out = append(out, api.Costs{Reprint: bad}, api.Costs{Star: bad}, api.Costs{Open: bad}, api.Costs{Reprint: bad, Star: bad, Open: bad})
	}
	return out
}

// A cell or a sheet that does not exist comes before costs that are not valid, and these before too many cells.
func TestRepairErrors(t *testing.T) {
	costs := api.Costs{Reprint: 1, Star: 1, Open: 1}
	m := newModel(good, 200)
	few, many := m.cells[:5], m.cells
	expectFull(t, damaged{m, many, costs})
	for _, bad := range badCosts() {
		for _, cells := range [][]api.Cell{nil, few, many} {
			d := damaged{m, cells, bad}
			expectPlanError(t, d, api.ErrArg)
			expectPriceError(t, d, []int{0}, api.ErrArg)
		}
	}
	for _, bad := range append(badCosts(), costs) {
		for _, cells := range [][]api.Cell{nil, few, many} {
			expectPriceError(t, damaged{m, cells, bad}, []int{0, -1, 0}, api.ErrRange)
			expectPriceError(t, damaged{m, cells, bad}, []int{200}, api.ErrRange)
			for _, off := range []api.Cell{{Sheet: 200}, {Sheet: -1}, {Pos: 4}, {Pos: -1}} {
				d := damaged{m, append(slices.Clone(cells), off), bad}
				expectPlanError(t, d, api.ErrRange)
				expectPriceError(t, d, nil, api.ErrRange)
				expectPriceError(t, d, []int{0, 1}, api.ErrRange)
			}
		}
	}
}

func TestWhatDoesNotExist(t *testing.T) {
	costs := api.Costs{Reprint: 1, Star: 1, Open: 1}
	for _, sheets := range []int{0, 1, 5} {
		m := newModel(good, sheets)
		for _, bad := range outside(sheets) {
			d := damaged{m, []api.Cell{{Sheet: bad}}, costs}
			expectPlanError(t, d, api.ErrRange)
			expectPriceError(t, d, nil, api.ErrRange)
			expectPriceError(t, damaged{m, nil, costs}, []int{bad}, api.ErrRange)
		}
		for _, bad := range outside(4) {
			d := damaged{m, []api.Cell{{Pos: bad}}, costs}
			expectPlanError(t, d, api.ErrRange)
			expectPriceError(t, d, nil, api.ErrRange)
		}
	}
}
