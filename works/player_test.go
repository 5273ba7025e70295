package works_test

import (
	"fmt"
	"maps"
	"math"
	"math/rand/v2"
	"slices"

	"guilloche/api"
)

// player makes plants, states and lines that lead to all kinds of events.
type player struct {
	*rand.Rand
}

// plant returns a plant with few notes.
func (p player) plant() api.Plant {
	out := smallPlant()
	out.Layout = api.Layout{Rows: 1 + p.IntN(2), Cols: 1 + p.IntN(3), Ream: 1 + p.IntN(4), Bundle: 1 + p.IntN(4), Down: p.IntN(2) > 0}
	out.Costs = api.Costs{Reprint: p.IntN(8), Star: p.IntN(4), Open: p.IntN(4)}
	out.Sheets = 1 + p.IntN(14)
	out.Presses, out.Life, out.Plates = 1+p.IntN(3), 1+p.IntN(12), p.IntN(20)
	out.Dry, out.Vaults = p.IntN(4), 1+p.IntN(3)
	out.Blocks = 100 + p.IntN(400)
	if p.IntN(3) == 0 {
		out.Blocks = 8 + p.IntN(40)
	}
	return out
}

// model returns a model of a works with work in hand, and with a journal that is large enough for its book.
func (p player) model(plant api.Plant) *model {
	plant.Blocks = max(plant.Blocks, 120)
	m := newModel(plant)
	m.now, m.stars, m.plates, m.printed = p.IntN(100), p.IntN(100), p.IntN(plant.Plates+1), p.IntN(plant.Sheets+1)
	m.books = newBooks(m.book.Now(), p.IntN(100))
	for i := range m.lives {
		m.lives[i] = p.IntN(plant.Life + 1)
	}
	for range p.IntN(4) {
		m.roots = append(m.roots, fmt.Sprintf("%064x", p.Uint64()))
	}
	dry := p.wet(m)
	for ream := range m.stages {
		lo, hi := m.ream(ream)
		tags := []int{api.TagPrinted, api.TagPrinted, api.TagPrinted, api.TagSpoiled}
		if end := (ream + 1) * plant.Layout.Ream; min(end, plant.Sheets) <= dry {
			m.stages[ream] = p.IntN(4)
		}
		if m.stages[ream] == api.ReamCut {
			tags = []int{api.TagIssued, api.TagDestroyed, api.TagSpoiled, api.TagVault, api.TagVault + p.IntN(plant.Vaults)}
		}
		for note := lo; note < hi; note++ {
			if m.sheetOf(note) < dry {
				m.paint(note, note+1, tags[p.IntN(len(tags))])
			}
		}
	}
	return m
}

// wet paints the printed sheets, and lays some of the last ones out to dry. It returns the first one of these.
func (p player) wet(m *model) int {
	for _, note := range m.notesOn(0, m.printed) {
		m.paint(note, note+1, api.TagPrinted)
	}
	dry, time := p.IntN(m.printed+1), 1
	for next := dry; next < m.printed && m.plant.Dry > 0; {
		b := batch{next, next + 1 + p.IntN(m.printed-next), 0}
		time += p.IntN(m.plant.Dry - time + 1)
		b.time = m.now + time
		m.batches = append(m.batches, b)
		for _, note := range m.notesOn(b.first, b.end) {
			m.paint(note, note+1, api.TagWet)
		}
		next = b.end + p.IntN(2)
	}
	if len(m.batches) == 0 {
		return m.printed
	}
	return dry
}

// below returns a number from 0 to n - 1; and seldom another one.
func (p player) below(n int) int {
	if p.IntN(60) == 0 {
		return []int{-1, n, n + 1, -2, math.MaxInt, math.MinInt}[p.IntN(6)]
	}
	return p.IntN(max(n, 1))
}

// clerk returns the number of a transaction, most often of one in progress.
func (p player) clerk(m *model) int {
	open := slices.Sorted(maps.Keys(m.clerks()))
	if len(open) == 0 || p.IntN(20) == 0 {
		return p.below(m.begun + 2)
	}
	return open[p.IntN(len(open))]
}

// notes returns a range of notes, most often one in which all have the same tag, and this tag.
func (p player) notes(m *model) (lo, hi, tag int) {
	runs, _ := m.book.Now().Runs(0, m.notes(), api.MaxRuns)
	if own := slices.DeleteFunc(slices.Clone(runs), func(run api.Run) bool { return run.Tag < api.TagVault }); len(own) > 0 && p.IntN(4) > 0 {
		runs = own
	}
	run := runs[p.IntN(len(runs))]
	lo = run.Lo + p.IntN(run.Hi-run.Lo)
	hi = lo + 1 + p.IntN(run.Hi-lo)
	if p.IntN(20) == 0 {
		lo = p.below(m.notes())
	}
	if p.IntN(8) == 0 {
		hi = p.below(m.notes() + 1)
	}
	return lo, hi, run.Tag
}

// place returns the place of a tag, or any other one.
func (p player) place(m *model, tag int) int {
	switch {
	case tag == api.TagIssued && p.IntN(10) > 0:
		return -1
	case tag >= api.TagVault && p.IntN(10) > 0:
		return tag - api.TagVault
	}
	return p.below(m.plant.Vaults+1) - 1
}

// ream returns a ream, most often one at the stage.
func (p player) ream(m *model, stage int) int {
	ream := p.below(len(m.stages))
	for range 3 {
		if m.stages[max(0, min(ream, len(m.stages)-1))] != stage {
			ream = p.below(len(m.stages))
		}
	}
	return ream
}

// line returns the line of an act, but not of those that concern the journal.
func (p player) line(m *model) string {
	press := p.below(m.plant.Presses)
	switch p.IntN(26) {
	case 0:
		return fmt.Sprintf("mount %d", press)
	case 1, 2:
		return fmt.Sprintf("print %d %d", press, 1+p.below(3))
	case 3, 4:
		return "tick"
	case 5, 6:
		return fmt.Sprintf("spoil %d %d", p.below(m.plant.Sheets), p.below(m.plant.Layout.Rows*m.plant.Layout.Cols))
	case 7, 8:
		return fmt.Sprintf("repair %d %d", p.ream(m, api.ReamRaw), press)
	case 9, 10:
		return fmt.Sprintf("inspect %d %d %d %d", p.ream(m, api.ReamRepaired), p.below(5), p.below(3), p.below(1000))
	case 11, 12:
		return fmt.Sprintf("cut %d", p.ream(m, api.ReamPassed))
	case 13, 14:
		return fmt.Sprintf("destroy %d %d %d %d", p.below(m.notes()), p.below(m.notes())+1, 1+p.below(100), 1+p.below(100))
	case 15:
		return fmt.Sprintf("audit %d %d %d", p.below(m.plant.Vaults), p.below(4), p.below(1000))
	}
	return p.clerkLine(m)
}

// clerkLine returns the line of an act of a clerk.
func (p player) clerkLine(m *model) string {
	lo, hi, tag := p.notes(m)
	switch p.IntN(10) {
	case 0, 1:
		return "begin"
	case 2, 3:
		return fmt.Sprintf("look %d %d %d", p.clerk(m), lo, hi)
	case 4, 5, 6, 7:
		return fmt.Sprintf("move %d %d %d %d %d", p.clerk(m), lo, hi, p.place(m, tag), p.place(m, api.TagBlank))
	case 8:
		return fmt.Sprintf("commit %d", p.clerk(m))
	}
	return fmt.Sprintf("abort %d", p.clerk(m))
}

// safetyLine returns the line of an act that concerns the journal.
func (p player) safetyLine() string {
	switch p.IntN(6) {
	case 0, 1, 2:
		return "save"
	case 3:
		return "check"
	}
	line := "crash"
	for range p.IntN(5) {
		line += fmt.Sprintf(" %d", p.below(3))
	}
	return line
}
