package works

import (
	"slices"

	"guilloche/api"
	"guilloche/sample"
	"guilloche/sheet"
)

func (w *Works) print(a api.Act) ([]api.Event, api.Errno) {
	if err := w.canPrint(a.A, a.B); err != api.OK {
		return nil, err
	}
	first, end := w.printed, w.printed+a.B
	if err := w.ledger.change(movesOf(w.plant.notesOn(first, end), api.TagBlank, w.freshTag())); err != api.OK {
		return nil, err
	}
	w.lay(a.A, a.B)
	return []api.Event{{Kind: api.EvPrinted, A: a.A, B: first, C: end}}, api.OK
}

func (w *Works) tick(api.Act) ([]api.Event, api.Errno) {
	dry := w.dryAt(w.now + 1)
	moves := movesOf(w.notesIn(dry), api.TagWet, api.TagPrinted)
	if err := w.ledger.canChange(moves); err != api.OK {
		return nil, err
	}
	if w.now >= maxCount {
		return nil, api.ErrFull
	}
	w.ledger.apply(moves)
	w.now++
	w.drying = slices.Clone(w.drying[len(dry):])
	var events []api.Event
	for _, b := range dry {
		events = append(events, api.Event{Kind: api.EvDried, A: b.first, B: b.end})
	}
	return events, api.OK
}

func (w *Works) spoil(a api.Act) ([]api.Event, api.Errno) {
	note, err := sheet.Note(w.plant.Layout, w.plant.Sheets, api.Cell{Sheet: a.A, Pos: a.B})
	if err != api.OK {
		return nil, err
	}
	if w.tagAt(note) != api.TagPrinted || w.stageOf(a.A) != api.ReamRaw {
		return nil, api.ErrState
	}
	if err := w.ledger.change(movesOf([]stretch{{note, note + 1}}, api.TagPrinted, api.TagSpoiled)); err != api.OK {
		return nil, err
	}
	return []api.Event{{Kind: api.EvSpoiled, A: note}}, api.OK
}

func (w *Works) repair(a api.Act) ([]api.Event, api.Errno) {
	if !w.hasReam(a.A) || !w.hasPress(a.B) {
		return nil, api.ErrRange
	}
	if w.stage(a.A) != api.ReamRaw || !w.isPrinted(a.A) {
		return nil, api.ErrState
	}
	spoiled := w.spoiledIn(a.A)
	plan, err := sheet.Plan(w.plant.Layout, w.plant.Sheets, spoiled, w.plant.Costs)
	if err != api.OK {
		return nil, err
	}
	if len(plan.Reprint) > w.life(a.B) {
		return nil, api.ErrPlate
	}
	moves := movesOf(w.mended(spoiled, plan), api.TagSpoiled, api.TagPrinted)
	if err := w.ledger.canChange(moves); err != api.OK {
		return nil, err
	}
	if w.stars+len(plan.Stars) > maxCount {
		return nil, api.ErrFull
	}
	w.ledger.apply(moves)
	w.lives[a.B] -= len(plan.Reprint)
	w.stages[a.A] = api.ReamRepaired
	events := repairEvents(plan, w.stars)
	w.stars += len(plan.Stars)
	return append(events, api.Event{Kind: api.EvRepaired, A: a.A, B: plan.Cost}), api.OK
}

// isPrinted reports whether all notes of the ream are printed, spoiled or not.
func (w *Works) isPrinted(ream int) bool {
	notes := w.plant.notesOf(ream)
	return total(w.tagged(notes, api.TagPrinted))+total(w.tagged(notes, api.TagSpoiled)) == notes.len()
}

// spoiledIn returns the cells of the spoiled notes of the ream.
func (w *Works) spoiledIn(ream int) []api.Cell {
	var out []api.Cell
	for _, s := range w.tagged(w.plant.notesOf(ream), api.TagSpoiled) {
		for note := s.lo; note < s.hi; note++ {
			out = append(out, w.plant.cell(note))
		}
	}
	return out
}

// mended returns the spoiled notes that are printed again.
func (w *Works) mended(spoiled []api.Cell, plan api.Repair) []stretch {
	var out []stretch
	for _, c := range spoiled {
		if _, again := slices.BinarySearch(plan.Reprint, c.Sheet); again {
			note, _ := sheet.Note(w.plant.Layout, w.plant.Sheets, c)
			out = append(out, stretch{note, note + 1})
		}
	}
	return join(out)
}

// repairEvents returns the events of a repair, before which that many replacement notes were used.
func repairEvents(plan api.Repair, stars int) []api.Event {
	var out []api.Event
	for _, again := range plan.Reprint {
		out = append(out, api.Event{Kind: api.EvReprinted, A: again})
	}
	for i, note := range plan.Stars {
		out = append(out, api.Event{Kind: api.EvReplaced, A: note, B: stars + i})
	}
	for _, bundle := range plan.Open {
		out = append(out, api.Event{Kind: api.EvOpened, A: bundle})
	}
	return out
}

func (w *Works) inspect(a api.Act) ([]api.Event, api.Errno) {
	if !w.hasReam(a.A) {
		return nil, api.ErrRange
	}
	if stage := w.stage(a.A); stage != api.ReamRepaired && stage != api.ReamPassed {
		return nil, api.ErrState
	}
	notes := w.plant.notesOf(a.A)
	if !isFrom(0, a.B, min(notes.len(), api.MaxDraw)) || a.C < 0 {
		return nil, api.ErrArg
	}
	draws, _ := sample.Draw(uint64(a.D), notes.len(), a.B)
	var bad []bool
	for _, draw := range draws {
		bad = append(bad, w.tagAt(notes.lo+draw) == api.TagSpoiled)
	}
	verdict, count, _ := sample.Judge(a.B, a.C, bad)
	w.stages[a.A] = api.ReamRepaired
	if verdict == api.Accepted {
		w.stages[a.A] = api.ReamPassed
	}
	return []api.Event{{Kind: api.EvInspected, A: a.A, B: verdict, C: count}}, api.OK
}

func (w *Works) cut(a api.Act) ([]api.Event, api.Errno) {
	if !w.hasReam(a.A) {
		return nil, api.ErrRange
	}
	if w.stage(a.A) != api.ReamPassed {
		return nil, api.ErrState
	}
	notes := w.plant.notesOf(a.A)
	good := w.tagged(notes, api.TagPrinted)
	if err := w.ledger.change(movesOf(good, api.TagPrinted, api.TagVault)); err != api.OK {
		return nil, err
	}
	w.stages[a.A] = api.ReamCut
	return []api.Event{{Kind: api.EvCut, A: a.A, B: total(good), C: notes.len() - total(good)}}, api.OK
}

const maxWitness = 100

func (w *Works) destroy(a api.Act) ([]api.Event, api.Errno) {
	if a.A < 0 || a.B <= a.A || a.B > w.plant.notes() {
		return nil, api.ErrRange
	}
	if !isFrom(1, a.C, maxWitness) || !isFrom(1, a.D, maxWitness) || a.C == a.D {
		return nil, api.ErrWitness
	}
	notes := w.waste(stretch{a.A, a.B})
	if len(notes) == 0 {
		return nil, api.ErrState
	}
	if err := w.ledger.change(movesOf(notes, api.TagSpoiled, api.TagDestroyed)); err != api.OK {
		return nil, err
	}
	var events []api.Event
	for _, s := range notes {
		events = append(events, api.Event{Kind: api.EvDestroyed, A: s.lo, B: s.hi})
	}
	return events, api.OK
}

// waste returns those of the notes that are spoiled, and belong to a ream that is cut.
func (w *Works) waste(notes stretch) []stretch {
	var out []stretch
	for ream, stage := range w.stages {
		part := w.plant.notesOf(ream)
		part = stretch{max(part.lo, notes.lo), min(part.hi, notes.hi)}
		if stage == api.ReamCut && part.len() > 0 {
			out = append(out, w.tagged(part, api.TagSpoiled)...)
		}
	}
	return join(out)
}

// tagAt returns the tag of the note.
func (w *Works) tagAt(note int) int {
	tag, _ := w.Map().Get(note)
	return tag
}

// tagged returns those of the notes that have the tag.
func (w *Works) tagged(notes stretch, tag int) []stretch {
	runs, _ := w.Map().Runs(notes.lo, notes.hi, api.MaxRuns)
	var out []stretch
	for _, run := range runs {
		if run.Tag == tag {
			out = append(out, stretch{run.Lo, run.Hi})
		}
	}
	return out
}
