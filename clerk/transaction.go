package clerk

import (
	"slices"

	"guilloche/api"
	"guilloche/span"
)

// runsPerMove is how many runs a map has more after a move, at most.
const runsPerMove = 2

// transaction is a transaction in progress.
type transaction struct {
	turn  int        // of its waiting request, or 0
	locks []api.Lock // in the order in which they were granted
	ops   []api.Op   // those that returned OK
	moves int        // how many of them are moves
}

// operation is a kind of operations.
type operation struct {
	write   bool // whether it needs its range for writing
	perform func(*Book, *transaction, *api.Op) api.Errno
}

const (
	looking = iota
	moving
)

func operations() [2]operation {
	return [2]operation{
		looking: {write: false, perform: (*Book).look},
		moving:  {write: true, perform: (*Book).move},
	}
}

// check returns why the transaction can do nothing, or OK.
func (b *Book) check(tx int) api.Errno {
	if !b.isUsable() {
		return api.ErrUnusable
	}
	switch b.State(tx) {
	case api.TxUnknown:
		return api.ErrTx
	case api.TxAborted:
		return api.ErrAborted
	case api.TxCommitted:
		return api.ErrCommitted
	case api.TxWaiting:
		return api.ErrWait
	}
	return api.OK
}

// checkOp returns what is wrong with the arguments of an operation, or OK. (The tags of a look are 0.)
func (b *Book) checkOp(op api.Op) api.Errno {
	if op.Lo < 0 || op.Hi < op.Lo || op.Hi > b.now.Size() {
		return api.ErrRange
	}
	if !isTag(op.From) || !isTag(op.To) {
		return api.ErrArg
	}
	return api.OK
}

func isTag(tag int) bool { return tag >= 0 && tag < api.MaxTags }

// do performs an operation, and returns it with its result.
func (b *Book) do(kind, tx int, op api.Op) (api.Op, api.Errno) {
	if err := b.check(tx); err != api.OK {
		return api.Op{}, err
	}
	if err := b.checkOp(op); err != api.OK {
		return api.Op{}, err
	}
	o, t := operations()[kind], b.progress[tx]
	if err := b.obtain(t, api.Lock{Tx: tx, Lo: op.Lo, Hi: op.Hi, Write: o.write}); err != api.OK {
		return api.Op{}, err
	}
	if err := o.perform(b, t, &op); err != api.OK {
		return api.Op{}, err
	}
	t.ops = append(t.ops, op)
	return op, api.OK
}

// look reads the live map: the pieces of a range that a transaction holds have not been changed by others in progress.
func (b *Book) look(_ *transaction, op *api.Op) api.Errno {
	runs, err := b.live.Runs(op.Lo, op.Hi, api.MaxRuns)
	op.Runs = runs
	return err
}

func (b *Book) move(t *transaction, op *api.Op) api.Errno {
	count, err := b.live.Count(op.Lo, op.Hi, op.From)
	if err != api.OK {
		return err
	}
	if count != op.Hi-op.Lo {
		return api.ErrState
	}
	if b.Room() == 0 {
		return api.ErrFull
	}
	b.live = retag(b.live, op.Lo, op.Hi, op.To)
	t.moves++
	return api.OK
}

// retag gives a tag to a range, which is valid. No map has too many runs then, since Room keeps two for each move.
func retag(m span.Map, lo, hi, tag int) span.Map {
	next, _ := m.Set(lo, hi, tag)
	return next
}

func (b *Book) commit(tx int) {
	ops := b.progress[tx].ops
	for _, op := range ops {
		if op.Move {
			b.now = retag(b.now, op.Lo, op.Hi, op.To)
		}
	}
	b.log = append(b.log, api.Done{Tx: tx, Ops: ops})
	b.end(tx, api.TxCommitted)
}

func (b *Book) abort(tx int) {
	for _, op := range slices.Backward(b.progress[tx].ops) {
		if op.Move {
			b.live = retag(b.live, op.Lo, op.Hi, op.From)
		}
	}
	b.end(tx, api.TxAborted)
}

// end removes the locks and the request of a transaction, and grants what it was in the way of.
func (b *Book) end(tx, state int) {
	delete(b.requests, b.progress[tx].turn)
	delete(b.progress, tx)
	b.ended[tx] = state
	for _, turn := range b.queue() {
		b.examine(turn)
	}
}
