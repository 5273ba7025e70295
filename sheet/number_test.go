package sheet_test

import (
	"math"
	"testing"

	"guilloche/api"
	"guilloche/sheet"
)

func expectNote(t *testing.T, l api.Layout, sheets int, c api.Cell, want int) {
	t.Helper()
	if got, err := sheet.Note(l, sheets, c); got != want || err != api.OK {
		t.Errorf("Note(%v, %d, %v) = %d, %d; not %d", l, sheets, c, got, err, want)
	}
	if got, err := sheet.Cell(l, sheets, want); got != c || err != api.OK {
		t.Errorf("Cell(%v, %d, %d) = %v, %d; not %v", l, sheets, want, got, err, c)
	}
}

func expectNotes(t *testing.T, l api.Layout, sheets, want int) {
	t.Helper()
	if got, err := sheet.Notes(l, sheets); got != want || err != api.OK {
		t.Errorf("Notes(%v, %d) = %d, %d; not %d", l, sheets, got, err, want)
	}
}

func expectStack(t *testing.T, l api.Layout, sheets, first, last, pos int, want [2]int) {
	t.Helper()
	lo, hi, err := sheet.Stack(l, sheets, first, last, pos)
	if got := [2]int{lo, hi}; got != want || err != api.OK {
		t.Errorf("Stack(%v, %d, %d, %d, %d) = %v, %d; not %v", l, sheets, first, last, pos, got, err, want)
	}
}

func expectNoStack(t *testing.T, l api.Layout, sheets, first, last, pos int) {
	t.Helper()
	if lo, hi, err := sheet.Stack(l, sheets, first, last, pos); lo != 0 || hi != 0 || err != api.ErrRange {
		t.Errorf("Stack(%v, %d, %d, %d, %d) = %d, %d, %d", l, sheets, first, last, pos, lo, hi, err)
	}
}

func TestNumberExamples(t *testing.T) {
	l := api.Layout{Rows: 2, Cols: 2, Ream: 3, Bundle: 1}
	expectNotes(t, l, 5, 20)
	expectNote(t, l, 5, api.Cell{Sheet: 2, Pos: 1}, 5)
	expectNote(t, l, 5, api.Cell{Sheet: 3, Pos: 0}, 12)
	expectNote(t, l, 5, api.Cell{Sheet: 4, Pos: 3}, 19)
	l.Down = true
	expectNote(t, l, 5, api.Cell{Sheet: 2, Pos: 1}, 3)
	expectNote(t, l, 5, api.Cell{Sheet: 4, Pos: 3}, 18) // The last ream has two sheets.
	expectStack(t, l, 5, 1, 3, 1, [2]int{3, 5})
}

func TestCheck(t *testing.T) {
	layouts := append(with(1, 1, 1, 1), with(16, 16, 10000, 1000)...)
	layouts = append(layouts, api.Layout{Rows: 1, Cols: 1, Ream: 1, Bundle: 1}, api.Layout{Rows: 16, Cols: 16, Ream: 10000, Bundle: 1000, Down: true})
	for _, l := range layouts {
		if err := sheet.Check(l); err != api.OK {
			t.Errorf("Check(%v) = %d", l, err)
		}
	}
	for _, l := range badLayouts() {
		for _, l.Down = range []bool{false, true} {
			if err := sheet.Check(l); err != api.ErrLayout {
				t.Errorf("Check(%v) = %d", l, err)
			}
		}
	}
}

func TestNoteAndCell(t *testing.T) {
	for _, m := range append(smallModels(), largeModels()...) {
		expectNotes(t, m.layout, m.sheets, len(m.cells))
		for note, c := range m.cells {
			expectNote(t, m.layout, m.sheets, c, note)
		}
	}
}

// All stacks of small print runs, and all bounds that are no stack.
func TestStack(t *testing.T) {
	for i, m := range smallModels() {
		if i%3 > 0 {
			continue
		}
		positions := m.layout.Rows * m.layout.Cols
		for pos := -1; pos <= positions; pos++ {
			for first := -1; first <= m.sheets+1; first++ {
				for last := -1; last <= m.sheets+1; last++ {
					if want, ok := m.stack(first, last, pos); ok {
						expectStack(t, m.layout, m.sheets, first, last, pos, want)
					} else {
						expectNoStack(t, m.layout, m.sheets, first, last, pos)
					}
				}
			}
		}
	}
}

// stack returns the bounds of the notes on the position of the sheets first to last - 1, and whether these are all sheets of one ream.
func (m *model) stack(first, last, pos int) ([2]int, bool) {
	if first < 0 || first >= last || last > m.sheets || m.reams[first] != m.reams[last-1] {
		return [2]int{}, false
	}
	lo, hi := math.MaxInt, 0
	for sheet := first; sheet < last; sheet++ {
		note, ok := m.numbers[api.Cell{Sheet: sheet, Pos: pos}]
		if !ok {
			return [2]int{}, false
		}
		lo, hi = min(lo, note), max(hi, note+1)
	}
	return [2]int{lo, hi}, true
}

func TestNumberLimits(t *testing.T) {
	l := api.Layout{Rows: 16, Cols: 16, Ream: 10000, Bundle: 1000}
	const most, last = api.MaxSheets, api.MaxSheets - 1
	const full, depth = most / 10000 * 10000, most % 10000
	expectNotes(t, l, most, 1<<28)
	expectNote(t, l, most, api.Cell{Sheet: last, Pos: 255}, 1<<28-1)
	expectNote(t, l, most, api.Cell{Sheet: full, Pos: 255}, 1<<28-depth)
	expectNote(t, l, most, api.Cell{Sheet: full - 1, Pos: 255}, 256*full-1)
	expectStack(t, l, most, full, most, 0, [2]int{256 * full, 256*full + depth})
	expectStack(t, l, most, full-10000, full, 255, [2]int{256*full - 10000, 256 * full})
	expectNoStack(t, l, most, full-1, full+1, 0)
	l.Down = true
	expectNote(t, l, most, api.Cell{Sheet: last, Pos: 255}, 1<<28-depth)
	expectNote(t, l, most, api.Cell{Sheet: full, Pos: 255}, 1<<28-1)
	expectStack(t, l, most, full, full+1, 255, [2]int{1<<28 - 1, 1 << 28})
	l.Ream = 1
	expectNote(t, l, most, api.Cell{Sheet: last, Pos: 3}, 256*last+3)
	expectNotes(t, l, 0, 0)
	expectNotes(t, l, 1, 256)
}

func TestNumberErrors(t *testing.T) {
	noNote := func(sheets int, c api.Cell) {
		t.Helper()
		if got, err := sheet.Note(good, sheets, c); got != 0 || err != api.ErrRange {
			t.Errorf("Note(%d, %v) = %d, %d", sheets, c, got, err)
		}
	}
	noCell := func(sheets, note int) {
		t.Helper()
		if got, err := sheet.Cell(good, sheets, note); got != (api.Cell{}) || err != api.ErrRange {
			t.Errorf("Cell(%d, %d) = %v, %d", sheets, note, got, err)
		}
	}
	for _, sheets := range []int{0, 1, 3, 5, api.MaxSheets} {
		for _, bad := range outside(sheets) {
			noNote(sheets, api.Cell{Sheet: bad})
			expectNoStack(t, good, sheets, bad, 1, 0)
			expectNoStack(t, good, sheets, bad, bad+1, 0)
			expectNoStack(t, good, sheets, 0, bad+1, 0)
			expectNoStack(t, good, sheets, bad, bad, 0)
		}
		for _, bad := range outside(4) {
			noNote(sheets, api.Cell{Pos: bad})
			expectNoStack(t, good, sheets, 0, 1, bad)
		}
		for _, bad := range outside(4 * sheets) {
			noCell(sheets, bad)
		}
		expectNoStack(t, good, sheets, 0, 0, 0)
	}
}
