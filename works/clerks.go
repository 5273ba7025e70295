package works

import (
	"guilloche/api"
)

func (w *Works) begin(api.Act) ([]api.Event, api.Errno) {
	tx, err := w.ledger.begin()
	if err != api.OK {
		return nil, err
	}
	return []api.Event{{Kind: api.EvBegun, A: tx}}, api.OK
}

func (w *Works) look(a api.Act) ([]api.Event, api.Errno) {
	tx, err := w.ledger.clerk(a.A)
	if err != api.OK {
		return nil, err
	}
	runs, err := w.ledger.book.Look(tx, a.B, a.C)
	var events []api.Event
	for _, run := range runs {
		events = append(events, api.Event{Kind: api.EvRun, A: run.Lo, B: run.Hi, C: run.Tag})
	}
	events = append(events, api.Event{Kind: api.EvLooked, A: a.A, B: a.B, C: a.C})
	return w.answer(a, events, err)
}

func (w *Works) move(a api.Act) ([]api.Event, api.Errno) {
	tx, err := w.ledger.clerk(a.A)
	if err != api.OK {
		return nil, err
	}
	isLimited := w.ledger.isLimited(tx, stretch{a.B, a.C})
	// A place that does not exist has no tag, which is ErrArg for the book as well.
	err = w.ledger.book.Move(tx, a.B, a.C, w.plant.tagOf(a.D), w.plant.tagOf(a.E))
	if err == api.ErrFull && !isLimited {
		err = api.ErrState // The book has no room for the move, which is refused as if its notes had another tag.
	}
	return w.answer(a, []api.Event{{Kind: api.EvMoved, A: a.A, B: a.B, C: a.C}}, err)
}

// answer returns the events of a look or a move, for which the book has returned an error, or OK for what is done.
func (w *Works) answer(a api.Act, done []api.Event, err api.Errno) ([]api.Event, api.Errno) {
	var events []api.Event
	switch err {
	case api.OK:
		events = done
	case api.ErrState:
		events = []api.Event{{Kind: api.EvRefused, A: a.A}}
	case api.ErrWait:
		events = []api.Event{{Kind: api.EvWaits, A: a.A}}
	case api.ErrDeadlock:
	default:
		return nil, err
	}
	return append(events, w.ledger.settle(a.A)...), api.OK
}

func (w *Works) commit(a api.Act) ([]api.Event, api.Errno) {
	tx, err := w.ledger.clerk(a.A)
	if err != api.OK {
		return nil, err
	}
	if _, err := w.ledger.book.Commit(tx); err != api.OK {
		return nil, err
	}
	w.ledger.committed++
	return append([]api.Event{{Kind: api.EvCommitted, A: a.A, B: w.ledger.committed}}, w.ledger.settle(a.A)...), api.OK
}

func (w *Works) abort(a api.Act) ([]api.Event, api.Errno) {
	tx, err := w.ledger.clerk(a.A)
	if err != api.OK && err != api.ErrWait {
		return nil, err
	}
	if err := w.ledger.book.Abort(tx); err != api.OK {
		return nil, err
	}
	return w.ledger.settle(a.A), api.OK
}
