package sheet_test

import (
	"math"
	"math/rand/v2"
	"slices"

	"guilloche/api"
)

// damaged is a print run with spoiled cells. The tests compute what they expect of it from the definition of a repair.
type damaged struct {
	*model
	spoiled []api.Cell
	costs   api.Costs
}

// repair returns the repair that prints these sheets again. (A sheet may be given several times.)
func (d damaged) repair(sheets []int) api.Repair {
	again := distinct(sheets)
	var stars, open []int
	for _, c := range d.spoiled {
		if !slices.Contains(again, c.Sheet) {
			stars = append(stars, d.numbers[c])
			open = append(open, d.bundle[d.numbers[c]])
		}
	}
	out := api.Repair{Reprint: again, Stars: distinct(stars), Open: distinct(open)}
	out.Cost = d.costs.Reprint*len(out.Reprint) + d.costs.Star*len(out.Stars) + d.costs.Open*len(out.Open)
	return out
}

// distinct returns the numbers in ascending order, each once.
func distinct(list []int) []int {
	out := slices.Clone(list)
	slices.Sort(out)
	return slices.Compact(out)
}

// sheetsOf returns the sheets with a spoiled cell.
func (d damaged) sheetsOf() []int {
	var out []int
	for _, c := range d.spoiled {
		out = append(out, c.Sheet)
	}
	return distinct(out)
}

// best goes through all sets of sheets with a spoiled cell. It returns the repair with the sheets that are printed again in all repairs with the least cost.
func (d damaged) best() api.Repair {
	sheets := d.sheetsOf()
	var sets [][]int
	for set := range 1 << len(sheets) {
		sets = append(sets, chosen(sheets, set))
	}
	return d.bestOf(sets)
}

// chosen returns the elements of list whose bits are in set.
func chosen(list []int, set int) []int {
	var out []int
	for i, x := range list {
		if set>>i&1 == 1 {
			out = append(out, x)
		}
	}
	return out
}

// bestOf returns the repair with the sheets that are in all of the cheapest of these sets.
func (d damaged) bestOf(sets [][]int) api.Repair {
	least, common := math.MaxInt, []int(nil)
	for _, set := range sets {
		switch cost := d.repair(set).Cost; {
		case cost < least:
			least, common = cost, set
		case cost == least:
			common = slices.DeleteFunc(slices.Clone(common), func(sheet int) bool { return !slices.Contains(set, sheet) })
		}
	}
	return d.repair(common)
}

// bestOfFewBundles goes through all sets of bundles with a spoiled note. A repair that opens none of a set prints all their sheets again, and those whose stars cost more than they do.
func (d damaged) bestOfFewBundles() api.Repair {
	all := d.repair(nil).Open
	var sets [][]int
	for set := range 1 << len(all) {
		closed := chosen(all, set)
		sheets := d.dear()
		for _, c := range d.spoiled {
			if slices.Contains(closed, d.bundle[d.numbers[c]]) {
				sheets = append(sheets, c.Sheet)
			}
		}
		sets = append(sets, distinct(sheets))
	}
	return d.bestOf(sets)
}

// dear returns the sheets whose stars cost more than they do.
func (d damaged) dear() []int {
	stars := map[int]map[api.Cell]bool{}
	var out []int
	for _, c := range d.spoiled {
		if stars[c.Sheet] == nil {
			stars[c.Sheet] = map[api.Cell]bool{}
		}
		stars[c.Sheet][c] = true
		if len(stars[c.Sheet])*d.costs.Star > d.costs.Reprint {
			out = append(out, c.Sheet)
		}
	}
	return out
}

// spoil returns the print run with n random spoiled cells on some of its sheets, which may be given several times.
func (m *model) spoil(r *rand.Rand, n, sheets int, costs api.Costs) damaged {
	d := damaged{model: m, costs: costs}
	order := r.Perm(m.sheets)
	for range n {
		c := m.cells[r.IntN(len(m.cells))]
		d.spoiled = append(d.spoiled, api.Cell{Sheet: order[r.IntN(min(sheets, m.sheets))], Pos: c.Pos})
	}
	return d
}

func randomCosts(r *rand.Rand, most int) api.Costs {
	return api.Costs{Reprint: r.IntN(2*most + 1), Star: r.IntN(most + 1), Open: r.IntN(most + 1)}
}
