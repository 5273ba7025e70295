package sheet

import (
	"maps"
	"slices"

	"guilloche/api"
	"guilloche/flow"
)

// spoil is a spoiled note and its bundle.
type spoil struct {
	note, bundle int
}

// damage is what is spoiled and not printed again. Each of its sheets and bundles has at least one spoiled note.
type damage struct {
	sheets  map[int][]spoil // the spoiled notes of each sheet
	bundles map[int]int     // the number of spoiled notes of each bundle
}

// survey returns the damage of the spoiled cells, or the first error of these, of the sheets to be printed again, and of the costs.
func survey(l api.Layout, sheets int, spoiled []api.Cell, c api.Costs, reprint []int) (damage, api.Errno) {
	p, err := newPrintRun(l, sheets)
	if err != api.OK {
		return damage{}, err
	}
	isOff := func(c api.Cell) bool { return !p.hasCell(c) }
	isNone := func(sheet int) bool { return !p.hasSheet(sheet) }
	if slices.ContainsFunc(spoiled, isOff) || slices.ContainsFunc(reprint, isNone) {
		return damage{}, api.ErrRange
	}
	if !isFrom(0, c.Reprint, maxPrice) || !isFrom(0, c.Star, maxPrice) || !isFrom(0, c.Open, maxPrice) {
		return damage{}, api.ErrArg
	}
	return p.collect(spoiled)
}

// collect returns the damage of the spoiled cells. It ends at the first one that is too many, since the list may be very long.
func (p printRun) collect(spoiled []api.Cell) (damage, api.Errno) {
	d := damage{map[int][]spoil{}, map[int]int{}}
	seen := map[api.Cell]bool{}
	for _, c := range spoiled {
		if seen[c] {
			continue
		}
		seen[c] = true
		note := p.note(c)
		d.add(c.Sheet, spoil{note, p.bundleOf(note)})
		if len(seen) > api.MaxCells || len(d.sheets)+len(d.bundles) > api.MaxGoods {
			return damage{}, api.ErrFull
		}
	}
	return d, api.OK
}

func (d damage) add(sheet int, s spoil) {
	d.sheets[sheet] = append(d.sheets[sheet], s)
	d.bundles[s.bundle]++
}

// reprint takes away what is repaired by printing the sheet again.
func (d damage) reprint(sheet int) {
	for _, s := range d.sheets[sheet] {
		d.bundles[s.bundle]--
		if d.bundles[s.bundle] == 0 {
			delete(d.bundles, s.bundle)
		}
	}
	delete(d.sheets, sheet)
}

// notes returns the spoiled notes in ascending order.
func (d damage) notes() []int {
	var out []int
	for _, list := range d.sheets {
		for _, s := range list {
			out = append(out, s.note)
		}
	}
	slices.Sort(out)
	return out
}

// opened returns the bundles in ascending order.
func (d damage) opened() []int { return slices.Sorted(maps.Keys(d.bundles)) }

// cost returns the cost of a repair that has printed some sheets again, and replaces the notes that are still spoiled.
func (d damage) cost(c api.Costs, again int) int {
	return c.Reprint*again + c.Star*len(d.notes()) + c.Open*len(d.bundles)
}

// cheapest returns, in ascending order, the smallest set of sheets that are printed again in a repair with the least cost.
func (d damage) cheapest(c api.Costs) []int {
	// What is saved is the sum of a closed set: a sheet in it is printed again and saves its stars, and a bundle in it is not opened, for which it needs all its sheets.
	sheets, bundles := slices.Sorted(maps.Keys(d.sheets)), d.opened()
	weights := make([]int, len(sheets), len(sheets)+len(bundles))
	var needs [][2]int
	for i, sheet := range sheets {
		weights[i] = c.Star*len(d.sheets[sheet]) - c.Reprint
		for _, s := range d.sheets[sheet] {
			at, _ := slices.BinarySearch(bundles, s.bundle)
			needs = append(needs, [2]int{len(sheets) + at, i})
		}
	}
	weights = append(weights, slices.Repeat([]int{c.Open}, len(bundles))...)
	_, chosen, _ := flow.Close(weights, needs) // A damage that was collected is within the limits of Close.
	var out []int
	for i, sheet := range sheets {
		if chosen[i] {
			out = append(out, sheet)
		}
	}
	return out
}
