package works

import (
	"cmp"
	"slices"

	"guilloche/api"
	"guilloche/serial"
	"guilloche/sheet"
)

const (
	maxSheets = 4096
	maxLife   = 1000000
	maxPlates = 1000000
	maxDry    = 1000
	minBlocks = 8
)

// isFrom reports whether x is from lo to hi.
func isFrom(lo, x, hi int) bool { return lo <= x && x <= hi }

func isValid(p api.Plant) bool {
	serials, err := serial.Count(p.Scheme)
	if err != api.OK {
		return false
	}
	// A plan for nothing examines the layout and the costs.
	if _, err := sheet.Plan(p.Layout, 0, nil, p.Costs); err != api.OK {
		return false
	}
	return isFrom(1, p.Sheets, maxSheets) && plant{p}.notes() <= min(serials, api.MaxPlant) &&
		isFrom(1, p.Presses, api.MaxPress) && isFrom(1, p.Life, maxLife) && isFrom(0, p.Plates, maxPlates) &&
		isFrom(0, p.Dry, maxDry) && isFrom(1, p.Vaults, api.MaxVaults) && isFrom(minBlocks, p.Blocks, api.MaxBlocks)
}

// plant is a valid plant, with what follows from it.
type plant struct {
	api.Plant
}

func newPlant(p api.Plant) plant {
	p.Scheme.Banned = slices.Clone(p.Scheme.Banned)
	return plant{p}
}

func (p plant) positions() int { return p.Layout.Rows * p.Layout.Cols }

func (p plant) notes() int { return p.Sheets * p.positions() }

func (p plant) reams() int { return (p.Sheets + p.Layout.Ream - 1) / p.Layout.Ream }

// sheetsOf returns the first sheet of the ream, and the sheet after its last one.
func (p plant) sheetsOf(ream int) (int, int) {
	first := ream * p.Layout.Ream
	return first, min(first+p.Layout.Ream, p.Sheets)
}

// notesOf returns the notes of the ream, which are consecutive.
func (p plant) notesOf(ream int) stretch {
	first, end := p.sheetsOf(ream)
	return stretch{first * p.positions(), end * p.positions()}
}

// notesOn returns the notes on the sheets from first to end - 1.
func (p plant) notesOn(first, end int) []stretch {
	var out []stretch
	for first < end {
		ream := first / p.Layout.Ream
		begin, next := p.sheetsOf(ream)
		if first == begin && next <= end {
			out = append(out, p.notesOf(ream)) // There may be very many stacks in all.
		} else {
			out = append(out, p.stacks(first, min(next, end))...)
		}
		first = next
	}
	return join(out)
}

// stacks returns the notes on the sheets from first to end - 1, which belong to one ream.
func (p plant) stacks(first, end int) []stretch {
	var out []stretch
	for pos := range p.positions() {
		lo, hi, _ := sheet.Stack(p.Layout, p.Sheets, first, end, pos)
		out = append(out, stretch{lo, hi})
	}
	return out
}

// cell returns the cell of the note.
func (p plant) cell(note int) api.Cell {
	c, _ := sheet.Cell(p.Layout, p.Sheets, note)
	return c
}

func (p plant) hasVault(vault int) bool { return isFrom(0, vault, p.Vaults-1) }

// issued is the place of notes that are in no vault.
const issued = -1

// noTag is the tag of a place that does not exist.
const noTag = -1

// tagOf returns the tag of the place.
func (p plant) tagOf(place int) int {
	switch {
	case place == issued:
		return api.TagIssued
	case p.hasVault(place):
		return api.TagVault + place
	}
	return noTag
}

// stretch is the notes from lo to hi - 1.
type stretch struct {
	lo, hi int
}

func (s stretch) len() int { return s.hi - s.lo }

// total counts the notes of the stretches.
func total(list []stretch) int {
	count := 0
	for _, s := range list {
		count += s.len()
	}
	return count
}

// join returns the longest possible stretches of these notes, in ascending order. No note is given twice.
func join(list []stretch) []stretch {
	slices.SortFunc(list, func(a, b stretch) int { return cmp.Compare(a.lo, b.lo) })
	var out []stretch
	for _, s := range list {
		if n := len(out); n > 0 && out[n-1].hi == s.lo {
			out[n-1].hi = s.hi
		} else {
			out = append(out, s)
		}
	}
	return out
}
