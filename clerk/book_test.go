package clerk_test

import (
	"math"
	"slices"
	"testing"

	"guilloche/api"
	"guilloche/clerk"
	"guilloche/span"
)

func unknown(next int) []int { return []int{0, -1, next, next + 1, math.MinInt, math.MaxInt} }

func TestNewBook(t *testing.T) {
	for _, tags := range [][]int{blank(1), blank(10), {3, 3, 0, 15, 1}, stripes(api.MaxRuns)} {
		b := newBench(t, tags, 0)
		b.check()
		for _, tx := range unknown(1) {
			b.checkTx(tx)
		}
	}
	if b, err := clerk.New(span.Map{}); b != nil || err != api.ErrUnusable {
		t.Errorf("New of an unusable map = %v, %d", b, err)
	}
}

func TestUnusable(t *testing.T) {
	for _, b := range []*clerk.Book{nil, {}} {
		if tx, err := b.Begin(); tx != 0 || err != api.ErrUnusable {
			t.Errorf("Begin = %d, %d", tx, err)
		}
		for _, n := range []int{-1, 0, 1} {
			if runs, err := b.Look(n, n, n); runs != nil || err != api.ErrUnusable {
				t.Errorf("Look = %v, %d", runs, err)
			}
			if err := b.Move(n, n, n, n, n); err != api.ErrUnusable {
				t.Errorf("Move = %d", err)
			}
			if count, err := b.Commit(n); count != 0 || err != api.ErrUnusable {
				t.Errorf("Commit = %d, %d", count, err)
			}
			if err := b.Abort(n); err != api.ErrUnusable {
				t.Errorf("Abort = %d", err)
			}
			if b.State(n) != api.TxUnknown || len(b.Held(n)) > 0 {
				t.Errorf("State(%d) = %d, Held = %v", n, b.State(n), b.Held(n))
			}
		}
		if len(b.Queue()) > 0 || b.Room() != 0 || len(b.Log()) > 0 {
			t.Errorf("Queue = %v, Room = %d, Log = %v", b.Queue(), b.Room(), b.Log())
		}
		if !span.Equal(b.Now(), span.Map{}) {
			t.Error("Now is usable")
		}
	}
}

// Waiting transactions are in progress, too; ended ones are not, and their numbers are not used again.
func TestTooManyTransactions(t *testing.T) {
	b := newBench(t, blank(4), api.MaxTx)
	b.begin(api.ErrFull)
	b.move(1, 0, 4, 0, 1, api.OK)
	b.move(2, 0, 4, 0, 1, api.ErrWait)
	b.look(3, 0, 4, api.ErrWait)
	b.begin(api.ErrFull)
	b.abort(3, api.OK)
	b.begin(api.OK)
	b.begin(api.ErrFull)
	b.check()
	b.commit(1, api.OK)
	b.commit(api.MaxTx, api.OK)
	b.begin(api.OK)
	b.begin(api.OK)
	b.begin(api.ErrFull)
	b.check()
	if state := b.book.State(api.MaxTx + 3); state != api.TxActive {
		t.Errorf("the state of the last one is %d", state)
	}
}

func TestStates(t *testing.T) {
	b := newBench(t, blank(4), 4)
	b.look(1, 0, 4, api.OK)
	b.move(2, 0, 4, 0, 1, api.ErrWait)
	b.commit(3, api.OK)
	b.abort(4, api.OK)
	for tx, want := range []int{api.TxUnknown, api.TxActive, api.TxWaiting, api.TxCommitted, api.TxAborted, api.TxUnknown} {
		if state := b.book.State(tx); state != want {
			t.Errorf("State(%d) = %d, not %d", tx, state, want)
		}
	}
	b.check()
}

// Locks are in the order in which they were granted, and what is held already is not locked again.
func TestHeld(t *testing.T) {
	b := newBench(t, blank(20), 2)
	b.look(1, 5, 8, api.OK)
	b.look(1, 1, 3, api.OK)
	b.look(1, 2, 6, api.OK)
	b.look(1, 1, 8, api.OK)
	b.move(1, 9, 12, 0, 1, api.OK)
	b.look(1, 10, 12, api.OK)
	b.look(1, 6, 11, api.OK)
	b.move(1, 1, 3, 0, 1, api.OK)
	b.move(1, 3, 9, 0, 1, api.OK)
	b.move(1, 2, 11, 1, 2, api.OK)
	b.checkLocks("Held", b.book.Held(1), []api.Lock{{Tx: 1, Lo: 5, Hi: 8}, {Tx: 1, Lo: 1, Hi: 3}, {Tx: 1, Lo: 2, Hi: 6},
		{Tx: 1, Lo: 9, Hi: 12, Write: true}, {Tx: 1, Lo: 6, Hi: 11}, {Tx: 1, Lo: 1, Hi: 3, Write: true}, {Tx: 1, Lo: 3, Hi: 9, Write: true}})
	b.move(2, 13, 14, 0, 1, api.OK)
	b.check()
	b.commit(1, api.OK)
	b.abort(2, api.OK)
	b.checkLocks("Held", b.book.Held(1), nil)
	b.checkLocks("Held", b.book.Held(2), nil)
}

// A lock that was granted late comes after those that were granted before.
func TestQueue(t *testing.T) {
	b := newBench(t, blank(10), 5)
	b.move(1, 0, 10, 0, 1, api.OK)
	b.look(3, 2, 4, api.ErrWait)
	b.move(2, 0, 10, 0, 1, api.ErrWait)
	b.look(5, 0, 5, api.ErrWait)
	b.look(4, 5, 6, api.ErrWait)
	b.checkLocks("Queue", b.book.Queue(), []api.Lock{{Tx: 3, Lo: 2, Hi: 4}, {Tx: 2, Lo: 0, Hi: 10, Write: true}, {Tx: 5, Lo: 0, Hi: 5}, {Tx: 4, Lo: 5, Hi: 6}})
	b.abort(5, api.OK)
	b.check()
	b.commit(1, api.OK)
	b.checkLocks("Queue", b.book.Queue(), []api.Lock{{Tx: 2, Lo: 0, Hi: 10, Write: true}, {Tx: 4, Lo: 5, Hi: 6}})
	b.look(3, 7, 8, api.ErrDeadlock) // 3 waits for 2, which waits for 3
	b.checkLocks("Queue", b.book.Queue(), []api.Lock{{Tx: 4, Lo: 5, Hi: 6}})
	b.check()
}

func TestNowIsOfCommittedOnesAlone(t *testing.T) {
	b := newBench(t, []int{0, 0, 1, 1, 2, 2}, 3)
	b.move(1, 0, 2, 0, 5, api.OK)
	b.move(2, 2, 4, 1, 6, api.OK)
	b.move(3, 4, 6, 2, 7, api.OK)
	b.move(2, 3, 4, 6, 8, api.OK)
	b.checkNow([]int{0, 0, 1, 1, 2, 2})
	b.commit(2, api.OK)
	b.checkNow([]int{0, 0, 6, 8, 2, 2})
	b.abort(1, api.OK)
	b.checkNow([]int{0, 0, 6, 8, 2, 2})
	b.commit(3, api.OK)
	b.checkNow([]int{0, 0, 6, 8, 7, 7})
	b.check()
}

// The log has what committed transactions did with success, in the order of the commits.
func TestLog(t *testing.T) {
	b := newBench(t, []int{0, 0, 1, 1, 2, 2}, 4)
	b.look(1, 0, 3, api.OK)
	b.move(2, 4, 6, 2, 3, api.OK)
	b.move(1, 2, 4, 0, 1, api.ErrState)
	b.move(1, 2, 4, 1, 1, api.OK)
	b.look(2, 5, 5, api.OK)
	b.look(1, 0, 7, api.ErrRange)
	b.look(1, 0, 3, api.OK)
	b.look(3, 0, 1, api.OK)
	b.look(4, 5, 6, api.ErrWait)
	b.commit(2, api.OK)
	b.abort(3, api.OK)
	b.look(4, 3, 6, api.ErrWait)
	b.commit(1, api.OK)
	b.look(4, 3, 6, api.OK)
	b.commit(4, api.OK)
	b.begin(api.OK)
	b.commit(5, api.OK)
	runs := []api.Run{{Lo: 0, Hi: 2, Tag: 0}, {Lo: 2, Hi: 3, Tag: 1}}
	checkLog(t, b.book.Log(), []api.Done{
		{Tx: 2, Ops: []api.Op{{Move: true, Lo: 4, Hi: 6, From: 2, To: 3}, {Lo: 5, Hi: 5}}},
		{Tx: 1, Ops: []api.Op{{Lo: 0, Hi: 3, Runs: runs}, {Move: true, Lo: 2, Hi: 4, From: 1, To: 1}, {Lo: 0, Hi: 3, Runs: runs}}},
		{Tx: 4, Ops: []api.Op{{Lo: 3, Hi: 6, Runs: []api.Run{{Lo: 3, Hi: 4, Tag: 1}, {Lo: 4, Hi: 6, Tag: 3}}}}},
		{Tx: 5},
	})
	b.check()
}

func TestRoom(t *testing.T) {
	for _, c := range []struct{ runs, room int }{{1, 2047}, {2, 2047}, {3, 2046}, {4092, 2}, {4093, 1}, {4094, 1}, {4095, 0}, {4096, 0}} {
		b := newBench(t, stripes(c.runs), 1)
		if room := b.book.Room(); room != c.room {
			t.Errorf("Room with %d runs = %d, not %d", c.runs, room, c.room)
		}
		b.check()
		for left := range min(c.room, 5) {
			b.move(1, 0, 0, 3, 4, api.OK)
			if room := b.book.Room(); room != c.room-left-1 {
				t.Errorf("Room with %d runs and %d moves = %d", c.runs, left+1, room)
			}
		}
		b.look(1, 0, 1, api.OK) // takes no room
		b.check()
		b.commit(1, api.OK)
		if room := b.book.Room(); room != c.room {
			t.Errorf("Room after a commit = %d, not %d", room, c.room)
		}
	}
}

func TestMovesTakeRoom(t *testing.T) {
	b := newBench(t, stripes(4090), 3) // room for three moves
	b.move(1, 0, 1, 0, 1, api.OK)
	b.move(2, 1, 2, 1, 2, api.OK)
	b.move(2, 1, 2, 2, 2, api.OK)
	b.check()
	b.move(3, 8, 8, 0, 0, api.ErrFull)
	b.move(3, 8, 9, 0, 1, api.ErrFull)
	b.move(1, 0, 1, 1, 1, api.ErrFull)
	b.move(3, 9, 10, 0, 1, api.ErrState) // comes first
	b.checkLocks("Held", b.book.Held(3), []api.Lock{{Tx: 3, Lo: 8, Hi: 9, Write: true}, {Tx: 3, Lo: 9, Hi: 10, Write: true}})
	b.check()
	b.abort(2, api.OK)
	b.move(3, 8, 9, 0, 1, api.OK)
	b.check()
	b.commit(1, api.OK) // 4089 runs are left
	b.check()
	b.abort(3, api.OK)
	b.check()
}

// A move may give the map two more runs, until there is no room.
func TestMovesUpToMaxRuns(t *testing.T) {
	b := newBench(t, slices.Concat(stripes(4088), []int{2}, blank(20)), 2) // 4090 runs
	b.move(1, 4091, 4092, 0, 5, api.OK)
	b.move(2, 4101, 4102, 0, 5, api.OK)
	b.move(1, 4095, 4096, 0, 5, api.OK)
	b.move(2, 4098, 4099, 0, 5, api.ErrFull)
	b.commit(2, api.OK)
	b.move(1, 4097, 4098, 0, 5, api.ErrFull)
	b.look(1, 4080, 4100, api.OK)
	b.commit(1, api.OK)
	if runs := b.book.Now().Len(); runs != api.MaxRuns || b.book.Room() != 0 {
		t.Errorf("%d runs, Room %d", runs, b.book.Room())
	}
	b.check()
}

func TestEndingErrors(t *testing.T) {
	b := newBench(t, blank(4), 4)
	b.commit(1, api.OK)
	b.abort(2, api.OK)
	b.move(3, 0, 4, 0, 1, api.OK)
	b.look(4, 0, 4, api.ErrWait)
	for _, tx := range unknown(5) {
		b.commit(tx, api.ErrTx)
		b.abort(tx, api.ErrTx)
	}
	for range 2 {
		b.commit(1, api.ErrCommitted)
		b.abort(1, api.ErrCommitted)
		b.commit(2, api.ErrAborted)
		b.abort(2, api.ErrAborted)
		b.commit(4, api.ErrWait)
		b.check()
	}
	b.abort(4, api.OK)
	b.commit(3, api.OK)
	b.check()
	if count, err := b.book.Commit(0); count != 0 || err != api.ErrTx {
		t.Errorf("Commit = %d, %d", count, err)
	}
}

func TestCommitCounts(t *testing.T) {
	b := newBench(t, blank(1), 3)
	b.abort(1, api.OK)
	for i, tx := range []int{3, 2} {
		if count, err := b.book.Commit(tx); count != i+1 || err != api.OK {
			t.Errorf("Commit(%d) = %d, %d", tx, count, err)
		}
	}
}

// The moves are undone in reverse order, also those of a waiting transaction.
func TestAbortUndoes(t *testing.T) {
	b := newBench(t, blank(9), 3)
	b.move(1, 0, 6, 0, 1, api.OK)
	b.move(1, 2, 4, 1, 2, api.OK)
	b.move(1, 0, 2, 1, 2, api.OK)
	b.move(1, 1, 4, 2, 3, api.OK)
	b.move(2, 6, 9, 0, 4, api.OK)
	b.look(1, 5, 8, api.ErrWait)
	b.check()
	b.abort(1, api.OK)
	b.look(3, 0, 6, api.OK)
	b.commit(2, api.OK)
	b.look(3, 0, 9, api.OK)
	b.checkNow([]int{0, 0, 0, 0, 0, 0, 4, 4, 4})
	b.check()
}

// What a book returns shares no memory with it: neither changes the other.
func TestResultsAreNew(t *testing.T) {
	b := newBench(t, blank(9), 3)
	b.move(1, 0, 3, 0, 1, api.OK)
	runs, _ := b.book.Look(1, 0, 3)
	clear(runs)
	b.model.look(1, 0, 3)
	b.commit(1, api.OK)
	b.move(2, 0, 3, 1, 2, api.OK)
	b.move(3, 0, 3, 1, 2, api.ErrWait)
	log := b.book.Log()
	for _, done := range log {
		for _, op := range done.Ops {
			clear(op.Runs)
		}
		clear(done.Ops)
	}
	clear(log)
	clear(b.book.Held(2))
	clear(b.book.Queue())
	b.check()
	log, held, queue := b.book.Log(), b.book.Held(2), b.book.Queue()
	oldHeld, oldQueue := slices.Clone(held), slices.Clone(queue)
	b.move(2, 3, 6, 0, 1, api.OK)
	b.commit(2, api.OK)
	b.check()
	checkLog(t, log, b.model.log[:1])
	b.checkLocks("the Held before", held, oldHeld)
	b.checkLocks("the Queue before", queue, oldQueue)
}
