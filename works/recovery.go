package works

import (
	"guilloche/api"
	"guilloche/journal"
	"guilloche/script"
)

// install gives the works an empty journal on a new disk.
func (w *Works) install() {
	w.disk, _ = journal.NewDisk(w.plant.Blocks)
	journal.Format(w.disk)
	w.journal, _ = journal.Open(w.disk)
}

func (w *Works) save(api.Act) ([]api.Event, api.Errno) {
	w.journal.Commit()
	return []api.Event{{Kind: api.EvSaved, A: len(w.journal.Records())}}, api.OK
}

func (w *Works) check(api.Act) ([]api.Event, api.Errno) {
	if len(w.ledger.open) > 0 {
		return nil, api.ErrBusy
	}
	text := w.text()
	if w.journal.Checkpoint(text) != api.OK {
		return nil, api.ErrFull
	}
	w.ledger = newLedger(w.Map(), w.ledger.begun)
	return []api.Event{{Kind: api.EvChecked, A: len(text)}}, api.OK
}

func (w *Works) crash(a api.Act) ([]api.Event, api.Errno) {
	w.disk.Crash(a.Keep)
	opened, _ := journal.Open(w.disk)
	next := recovered(w.plant, opened.State())
	next.disk, next.journal = w.disk, opened
	records := opened.Records()
	next.repeat(records)
	*w = *next
	return append([]api.Event{{Kind: api.EvRecovered, A: len(records)}}, w.abortAll()...), api.OK
}

// recovered returns a works with the state of a journal, but without a journal.
func recovered(p plant, state string) *Works {
	if state == "" {
		return newWorks(p)
	}
	w, _ := readBook(p, state)
	return w
}

// repeat performs the acts of a journal's records again. None of them fails, since none did before.
func (w *Works) repeat(records []string) {
	for _, record := range records {
		a, _ := script.Parse(record)
		effects()[a.Kind].perform(w, a)
	}
}

// abortAll aborts the transactions in progress, and returns the events.
func (w *Works) abortAll() []api.Event {
	var out []api.Event
	for _, p := range w.ledger.open {
		events, _ := w.Do(api.Act{Kind: api.ActAbort, A: w.ledger.before + p.tx})
		out = append(out, events...)
	}
	return out
}
