package works

import (
	"cmp"
	"slices"

	"guilloche/api"
	"guilloche/clerk"
	"guilloche/span"
)

// ledger is the book in use, with what a works knows of its transactions. Their numbers in the book are those of the works, minus before.
type ledger struct {
	book      *clerk.Book
	before    int          // transactions that were begun before the book was in use
	begun     int          // transactions, with those
	clerks    map[int]bool // the transactions of clerks in the book; the others are those of production acts
	open      []progress   // those of clerks that are in progress, in ascending order
	committed int          // how many of those of clerks were committed
}

// progress is a transaction in progress, and whether it was Waiting after the last act of a clerk.
type progress struct {
	tx      int // its number in the book
	waiting bool
}

// newLedger returns a ledger with a new book, before which that many transactions were begun.
func newLedger(m span.Map, begun int) ledger {
	book, _ := clerk.New(m)
	return ledger{book: book, before: begun, begun: begun, clerks: map[int]bool{}}
}

func (l *ledger) now() span.Map { return l.book.Now() }

// state returns the state of a transaction of the works.
func (l *ledger) state(tx int) int { return l.book.State(tx - l.before) }

// begin begins a transaction of a clerk, and returns its number at the works.
func (l *ledger) begin() (int, api.Errno) {
	if l.begun >= maxCount {
		return 0, api.ErrFull
	}
	tx, err := l.book.Begin()
	if err != api.OK {
		return 0, err
	}
	l.begun++
	l.clerks[tx] = true
	l.open = append(l.open, progress{tx: tx})
	return l.begun, api.OK
}

// clerk returns the number in the book of a clerk's transaction; and ErrTx if there is none, or ErrWait if it waits.
func (l *ledger) clerk(tx int) (int, api.Errno) {
	number := tx - l.before
	switch {
	case !l.clerks[number]:
		return 0, api.ErrTx
	case l.book.State(number) == api.TxWaiting:
		return number, api.ErrWait
	}
	return number, api.OK
}

// settle brings the open transactions up to date after an act of a transaction of the works, and returns which of them were aborted by it, and which others go on.
func (l *ledger) settle(actor int) []api.Event {
	var aborted, granted []api.Event
	var open []progress
	for _, p := range l.open {
		state, tx := l.book.State(p.tx), l.before+p.tx
		if state == api.TxAborted {
			aborted = append(aborted, api.Event{Kind: api.EvAborted, A: tx})
		}
		if state == api.TxActive && p.waiting && tx != actor {
			granted = append(granted, api.Event{Kind: api.EvGranted, A: tx})
		}
		if state == api.TxActive || state == api.TxWaiting {
			open = append(open, progress{p.tx, state == api.TxWaiting})
		}
	}
	l.open = open
	return append(aborted, granted...)
}

// locks returns all locks and waiting requests.
func (l *ledger) locks() []api.Lock {
	out := l.book.Queue()
	for _, p := range l.open {
		out = append(out, l.book.Held(p.tx)...)
	}
	return out
}

// isLimited reports whether a move of the notes needs one more lock than there may be.
func (l *ledger) isLimited(tx int, notes stretch) bool {
	return len(l.locks()) >= api.MaxLocks && !l.holds(tx, notes)
}

// holds reports whether a transaction holds the notes for writing.
func (l *ledger) holds(tx int, notes stretch) bool {
	locks := l.book.Held(tx)
	slices.SortFunc(locks, func(a, b api.Lock) int { return cmp.Compare(a.Lo, b.Lo) })
	covered := notes.lo
	for _, lock := range locks {
		if lock.Write && lock.Lo <= covered {
			covered = max(covered, lock.Hi)
		}
	}
	return covered >= notes.hi
}

// change makes moves in a transaction of its own, if there are any.
func (l *ledger) change(moves []api.Change) api.Errno {
	if err := l.canChange(moves); err != api.OK {
		return err
	}
	l.apply(moves)
	return api.OK
}

// canChange returns why the moves cannot be made now, or OK.
func (l *ledger) canChange(moves []api.Change) api.Errno {
	if len(moves) == 0 {
		return api.OK
	}
	locks := l.locks()
	for _, m := range moves {
		if slices.ContainsFunc(locks, func(lock api.Lock) bool { return lock.Lo < m.Hi && m.Lo < lock.Hi }) {
			return api.ErrBusy
		}
	}
	if len(l.open) >= api.MaxTx || len(moves) > l.book.Room() || len(moves)+len(locks) > api.MaxLocks || l.begun >= maxCount {
		return api.ErrFull
	}
	return api.OK
}

// apply makes moves that can be made.
func (l *ledger) apply(moves []api.Change) {
	if len(moves) == 0 {
		return
	}
	tx, _ := l.book.Begin()
	l.begun++
	for _, m := range moves {
		l.book.Move(tx, m.Lo, m.Hi, m.From, m.To)
	}
	l.book.Commit(tx)
}

// movesOf returns the moves that change the tag of these notes.
func movesOf(notes []stretch, from, to int) []api.Change {
	var out []api.Change
	for _, s := range notes {
		out = append(out, api.Change{Lo: s.lo, Hi: s.hi, From: from, To: to})
	}
	return out
}
