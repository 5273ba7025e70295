package works

import (
	"slices"

	"guilloche/api"
)

// batch is the sheets from first to end - 1, which are dry at a time.
type batch struct {
	first, end, time int
}

// pressroom is the plant with its presses and sheets.
type pressroom struct {
	plant   plant
	now     int
	printed int   // sheets
	lives   []int // of the plates of the presses
	plates  int   // in stock
	stars   int   // replacement notes that were used
	drying  []batch
	stages  []int // of the reams
}

func newPressroom(p plant) pressroom {
	return pressroom{plant: p, lives: make([]int, p.Presses), plates: p.Plates, stages: make([]int, p.reams())}
}

func (r *pressroom) hasPress(press int) bool { return isFrom(0, press, len(r.lives)-1) }

func (r *pressroom) hasReam(ream int) bool { return isFrom(0, ream, len(r.stages)-1) }

// life returns the remaining life of the plate of the press, or 0 if there is no such press.
func (r *pressroom) life(press int) int {
	if !r.hasPress(press) {
		return 0
	}
	return r.lives[press]
}

// stage returns the stage of the ream, or 0 if there is no such ream.
func (r *pressroom) stage(ream int) int {
	if !r.hasReam(ream) {
		return 0
	}
	return r.stages[ream]
}

// stageOf returns the stage of the sheet's ream.
func (r *pressroom) stageOf(sheet int) int { return r.stage(sheet / r.plant.Layout.Ream) }

func (r *pressroom) mount(a api.Act) ([]api.Event, api.Errno) {
	if !r.hasPress(a.A) {
		return nil, api.ErrRange
	}
	if r.plates == 0 {
		return nil, api.ErrPlate
	}
	r.plates--
	r.lives[a.A] = r.plant.Life
	return []api.Event{{Kind: api.EvMounted, A: a.A, B: r.plates}}, api.OK
}

// canPrint returns why the press cannot print that many sheets now, or OK.
func (r *pressroom) canPrint(press, count int) api.Errno {
	switch {
	case !r.hasPress(press):
		return api.ErrRange
	case count < 1:
		return api.ErrArg
	case count > r.plant.Sheets-r.printed:
		return api.ErrFull
	case count > r.lives[press]:
		return api.ErrPlate
	}
	return api.OK
}

// lay prints sheets, and lays them out to dry.
func (r *pressroom) lay(press, count int) {
	first := r.printed
	r.printed += count
	r.lives[press] -= count
	if r.plant.Dry > 0 {
		r.drying = append(r.drying, batch{first, r.printed, r.now + r.plant.Dry})
	}
}

// freshTag returns the tag of notes that have just been printed.
func (r *pressroom) freshTag() int {
	if r.plant.Dry > 0 {
		return api.TagWet
	}
	return api.TagPrinted
}

// dryAt returns the batches that are dry at the time, which are the first ones.
func (r *pressroom) dryAt(time int) []batch {
	wet := slices.IndexFunc(r.drying, func(b batch) bool { return b.time > time })
	if wet < 0 {
		return r.drying
	}
	return r.drying[:wet]
}

// notesIn returns the notes on the sheets of the batches.
func (r *pressroom) notesIn(batches []batch) []stretch {
	var out []stretch
	for _, b := range batches {
		out = append(out, r.plant.notesOn(b.first, b.end)...)
	}
	return join(out)
}
