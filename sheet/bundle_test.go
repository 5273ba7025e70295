package sheet_test

import (
	"testing"

	"guilloche/api"
	"guilloche/sheet"
)

func expectBundles(t *testing.T, l api.Layout, sheets, want int) {
	t.Helper()
	if got, err := sheet.Bundles(l, sheets); got != want || err != api.OK {
		t.Errorf("Bundles(%v, %d) = %d, %d; not %d", l, sheets, got, err, want)
	}
}

func expectBundle(t *testing.T, l api.Layout, sheets, bundle int, want [2]int) {
	t.Helper()
	lo, hi, err := sheet.Bundle(l, sheets, bundle)
	if got := [2]int{lo, hi}; got != want || err != api.OK {
		t.Errorf("Bundle(%v, %d, %d) = %v, %d; not %v", l, sheets, bundle, got, err, want)
	}
}

func expectBundleOf(t *testing.T, l api.Layout, sheets, note, want int) {
	t.Helper()
	if got, err := sheet.BundleOf(l, sheets, note); got != want || err != api.OK {
		t.Errorf("BundleOf(%v, %d, %d) = %d, %d; not %d", l, sheets, note, got, err, want)
	}
}

func TestBundles(t *testing.T) {
	for _, m := range append(smallModels(), largeModels()...) {
		expectBundles(t, m.layout, m.sheets, len(m.bundles))
		for bundle, want := range m.bundles {
			expectBundle(t, m.layout, m.sheets, bundle, want)
		}
		for note, want := range m.bundle {
			expectBundleOf(t, m.layout, m.sheets, note, want)
		}
	}
}

// A stack of five sheets has bundles of 2, 2 and 1 notes; the last ream has two sheets.
func TestBundleOfEachStack(t *testing.T) {
	l := api.Layout{Rows: 1, Cols: 2, Ream: 5, Bundle: 2}
	expectBundles(t, l, 7, 8)
	for bundle, want := range [][2]int{{0, 2}, {2, 4}, {4, 5}, {5, 7}, {7, 9}, {9, 10}, {10, 12}, {12, 14}} {
		expectBundle(t, l, 7, bundle, want)
	}
}

func TestBundleLimits(t *testing.T) {
	l := api.Layout{Rows: 16, Cols: 16, Ream: 10000, Bundle: 1}
	const most = api.MaxSheets
	const full, depth = most / 10000 * 10000, most % 10000
	expectBundles(t, l, most, 1<<28)
	expectBundle(t, l, most, 1<<28-1, [2]int{1<<28 - 1, 1 << 28})
	expectBundleOf(t, l, most, 1<<28-1, 1<<28-1)
	l.Bundle = 1000
	const last = (full+depth)/1000*256 + 256 - 1 // Each stack of the last ream has one bundle that is not full.
	expectBundles(t, l, most, last+1)
	expectBundle(t, l, most, last, [2]int{1<<28 - depth%1000, 1 << 28})
	expectBundleOf(t, l, most, 1<<28-1, last)
	expectBundles(t, l, 0, 0)
	expectBundles(t, l, 1, 256)
	expectBundle(t, l, 1, 255, [2]int{255, 256})
}

func TestBundleErrors(t *testing.T) {
	for _, sheets := range []int{0, 1, 3, 5, 7, api.MaxSheets} {
		count, _ := sheet.Bundles(good, sheets)
		for _, bad := range outside(count) {
			if lo, hi, err := sheet.Bundle(good, sheets, bad); lo != 0 || hi != 0 || err != api.ErrRange {
				t.Errorf("Bundle(%d, %d) = %d, %d, %d", sheets, bad, lo, hi, err)
			}
		}
		for _, bad := range outside(4 * sheets) {
			if got, err := sheet.BundleOf(good, sheets, bad); got != 0 || err != api.ErrRange {
				t.Errorf("BundleOf(%d, %d) = %d, %d", sheets, bad, got, err)
			}
		}
	}
}
