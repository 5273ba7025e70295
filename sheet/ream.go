package sheet

import (
	"guilloche/api"
)

// printRun is a print run with a valid layout and a valid number of sheets.
type printRun struct {
	layout api.Layout
	sheets int
}

func newPrintRun(l api.Layout, sheets int) (printRun, api.Errno) {
	if err := Check(l); err != api.OK {
		return printRun{}, err
	}
	if !isFrom(0, sheets, api.MaxSheets) {
		return printRun{}, api.ErrArg
	}
	return printRun{l, sheets}, api.OK
}

func (p printRun) positions() int { return p.layout.Rows * p.layout.Cols }

func (p printRun) notes() int { return p.sheets * p.positions() }

func (p printRun) hasSheet(sheet int) bool { return isFrom(0, sheet, p.sheets-1) }

func (p printRun) hasCell(c api.Cell) bool {
	return p.hasSheet(c.Sheet) && isFrom(0, c.Pos, p.positions()-1)
}

func (p printRun) hasNote(note int) bool { return isFrom(0, note, p.notes()-1) }

// bundles returns the number of bundles.
func (p printRun) bundles() int {
	full, rest := p.sheets/p.layout.Ream, p.sheets%p.layout.Ream
	return p.positions() * (full*p.bundlesOf(p.layout.Ream) + p.bundlesOf(rest))
}

// bundlesOf returns the number of bundles of a stack.
func (p printRun) bundlesOf(depth int) int {
	return (depth + p.layout.Bundle - 1) / p.layout.Bundle
}

// ream is one ream of a print run. Its stacks follow one another, and so do their bundles.
type ream struct {
	sheet   int // its first sheet
	note    int // its first note
	bundle  int // its first bundle
	depth   int
	bundles int // the number of bundles of each stack
}

func (p printRun) ream(number int) ream {
	first := number * p.layout.Ream
	depth := min(p.layout.Ream, p.sheets-first)
	return ream{
		sheet:   first,
		note:    first * p.positions(),
		bundle:  number * p.positions() * p.bundlesOf(p.layout.Ream), // All reams before it are full.
		depth:   depth,
		bundles: p.bundlesOf(depth),
	}
}

func (p printRun) reamOf(sheet int) ream { return p.ream(sheet / p.layout.Ream) }

func (p printRun) reamWith(note int) ream { return p.ream(note / (p.layout.Ream * p.positions())) }

// order turns a sheet, counted within its ream, into its place in each stack, counted from the lowest note. It is its own inverse, so that it turns a place into the sheet as well.
type order func(at int) int

func (r ream) rising(at int) int { return at }

func (r ream) falling(at int) int { return r.depth - 1 - at }

func (p printRun) order(r ream) order {
	if p.layout.Down {
		return r.falling
	}
	return r.rising
}

// at returns the note on the cell.
func (r ream) at(c api.Cell, place order) int {
	return r.note + c.Pos*r.depth + place(c.Sheet-r.sheet)
}

// of returns the cell of the note.
func (r ream) of(note int, sheet order) api.Cell {
	pos, place := r.stack(note)
	return api.Cell{Sheet: r.sheet + sheet(place), Pos: pos}
}

// stack returns the position of the stack with the note, and the place of the note in it.
func (r ream) stack(note int) (int, int) {
	return (note - r.note) / r.depth, (note - r.note) % r.depth
}

func (p printRun) note(c api.Cell) int {
	r := p.reamOf(c.Sheet)
	return r.at(c, p.order(r))
}

func (p printRun) cell(note int) api.Cell {
	r := p.reamWith(note)
	return r.of(note, p.order(r))
}

// bundle returns the least note of the bundle, and one more than the greatest.
func (p printRun) bundle(number int) (int, int) {
	r := p.ream(number / (p.positions() * p.bundlesOf(p.layout.Ream)))
	pos, nth := (number-r.bundle)/r.bundles, (number-r.bundle)%r.bundles
	bottom, lo := r.note+pos*r.depth, nth*p.layout.Bundle
	return bottom + lo, bottom + min(lo+p.layout.Bundle, r.depth)
}

func (p printRun) bundleOf(note int) int {
	r := p.reamWith(note)
	pos, place := r.stack(note)
	return r.bundle + pos*r.bundles + place/p.layout.Bundle
}
