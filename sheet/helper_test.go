package sheet_test

import (
	"math"
	"slices"

	"guilloche/api"
)

// model is a print run that was numbered note by note. The tests compare the package with it.
type model struct {
	layout  api.Layout
	sheets  int
	cells   []api.Cell       // the cell of each note
	numbers map[api.Cell]int // the note of each cell
	reams   []int            // the ream of each sheet
	bundles [][2]int         // the least note of each bundle, and one more than the greatest
	bundle  []int            // the bundle of each note
}

func newModel(l api.Layout, sheets int) *model {
	m := &model{layout: l, sheets: sheets, numbers: map[api.Cell]int{}}
	for first := 0; first < sheets; first += l.Ream {
		m.cut(first, min(first+l.Ream, sheets))
	}
	return m
}

// cut numbers and bundles the ream of the sheets first to last - 1.
func (m *model) cut(first, last int) {
	for range last - first {
		m.reams = append(m.reams, first)
	}
	for pos := range m.layout.Rows * m.layout.Cols {
		var stack []api.Cell
		for sheet := first; sheet < last; sheet++ {
			stack = append(stack, api.Cell{Sheet: sheet, Pos: pos})
		}
		if m.layout.Down {
			slices.Reverse(stack)
		}
		for bundle := range slices.Chunk(stack, m.layout.Bundle) {
			m.tie(bundle)
		}
	}
}

// tie makes a bundle of the next notes, which are on these cells.
func (m *model) tie(cells []api.Cell) {
	lo := len(m.cells)
	for _, c := range cells {
		m.numbers[c] = len(m.cells)
		m.cells = append(m.cells, c)
		m.bundle = append(m.bundle, len(m.bundles))
	}
	m.bundles = append(m.bundles, [2]int{lo, len(m.cells)})
}

// smallModels returns print runs with all small layouts.
func smallModels() []*model {
	var out []*model
	for i := range 3 * 2 * 5 * 6 * 2 {
		l := api.Layout{Rows: i%3 + 1, Cols: i/3%2 + 1, Ream: i/6%5 + 1, Bundle: i/30%6 + 1, Down: i/180 == 1}
		for sheets := range 14 {
			out = append(out, newModel(l, sheets))
		}
	}
	return out
}

// largeModels returns print runs with layouts up to the limits.
func largeModels() []*model {
	var out []*model
	for _, down := range []bool{false, true} {
		out = append(out,
			newModel(api.Layout{Rows: 16, Cols: 16, Ream: 100, Bundle: 7, Down: down}, 1234),
			newModel(api.Layout{Rows: 1, Cols: 16, Ream: 10000, Bundle: 1000, Down: down}, 23456),
			newModel(api.Layout{Rows: 16, Cols: 1, Ream: 10000, Bundle: 999, Down: down}, 9999),
			newModel(api.Layout{Rows: 2, Cols: 3, Ream: 10, Bundle: 1000, Down: down}, 1005),
			newModel(api.Layout{Rows: 1, Cols: 1, Ream: 9973, Bundle: 1, Down: down}, 100000),
		)
	}
	return out
}

// outside returns numbers that are not from 0 to n - 1.
func outside(n int) []int {
	return []int{math.MinInt, math.MinInt + 1, -1 << 32, -2, -1, n, n + 1, 1 << 32, math.MaxInt - 1, math.MaxInt}
}

var good = api.Layout{Rows: 2, Cols: 2, Ream: 3, Bundle: 2}

// badLayouts returns layouts that are not valid.
func badLayouts() []api.Layout {
	out := []api.Layout{{}}
	for _, bad := range []int{math.MinInt, -1, 0, 1 << 32, math.MaxInt} {
		out = append(out, with(bad, bad, bad, bad)...)
	}
	return append(out, with(17, 17, 10001, 1001)...)
}

// with returns layouts that have one of these numbers each.
func with(rows, cols, ream, bundle int) []api.Layout {
	a, b, c, d := good, good, good, good
	a.Rows, b.Cols, c.Ream, d.Bundle = rows, cols, ream, bundle
	return []api.Layout{a, b, c, d}
}

func badSheets() []int { return outside(api.MaxSheets + 1) }
