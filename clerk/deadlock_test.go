package clerk_test

import (
	"testing"

	"guilloche/api"
)

func TestExample(t *testing.T) {
	b := newBench(t, blank(10), 2)
	b.look(1, 0, 5, api.OK)
	b.look(2, 3, 8, api.OK)
	b.move(1, 0, 5, 0, 1, api.ErrWait)
	b.move(2, 3, 8, 0, 1, api.ErrDeadlock)
	b.checkStates(api.TxActive, api.TxAborted)
	b.checkLocks("Held", b.book.Held(1), []api.Lock{{Tx: 1, Lo: 0, Hi: 5}, {Tx: 1, Lo: 0, Hi: 5, Write: true}})
	b.checkNow(blank(10)) // the move of 1 has not been performed
	b.check()
	b.move(1, 0, 5, 0, 1, api.OK)
	b.commit(1, api.OK)
	b.checkNow([]int{1, 1, 1, 1, 1, 0, 0, 0, 0, 0})
	b.check()
}

// If the other one is aborted, and nothing else is in the way, the call goes on.
func TestOtherOneIsAborted(t *testing.T) {
	b := newBench(t, blank(10), 2)
	b.look(1, 0, 5, api.OK)
	b.move(2, 6, 8, 0, 3, api.OK)
	b.look(2, 3, 8, api.OK)
	b.move(2, 0, 5, 0, 1, api.ErrWait)
	b.move(1, 3, 8, 0, 1, api.OK)
	b.checkStates(api.TxActive, api.TxAborted)
	b.check()
	b.look(2, 0, 1, api.ErrAborted)
	b.commit(1, api.OK)
	b.checkNow([]int{0, 0, 0, 1, 1, 1, 1, 1, 0, 0})
	b.check()
}

// A call that goes on may fail nevertheless, with the error of its own.
func TestCallGoesOnAndFails(t *testing.T) {
	b := newBench(t, blank(10), 2)
	b.look(1, 0, 5, api.OK)
	b.look(2, 3, 8, api.OK)
	b.move(2, 0, 5, 0, 1, api.ErrWait)
	b.move(1, 3, 8, 9, 1, api.ErrState)
	b.check()
}

// The other one is aborted, but a third one is in the way, without a deadlock.
func TestOtherOneIsAbortedInVain(t *testing.T) {
	b := newBench(t, blank(10), 3)
	b.look(1, 0, 5, api.OK)
	b.look(2, 0, 8, api.OK)
	b.look(3, 3, 8, api.OK)
	b.move(3, 0, 1, 0, 1, api.ErrWait)
	b.move(1, 7, 8, 0, 1, api.ErrWait)
	b.checkStates(api.TxWaiting, api.TxActive, api.TxAborted)
	b.check()
	b.abort(2, api.OK)
	b.move(1, 7, 8, 0, 1, api.OK)
	b.check()
}

// Whoever waits for the least one is aborted if that waits, too.
func TestSeveralAreAborted(t *testing.T) {
	b := newBench(t, blank(10), 4)
	for tx := 1; tx <= 4; tx++ {
		b.look(tx, 0, 10, api.OK)
	}
	b.move(1, 0, 1, 0, 1, api.ErrWait)
	b.move(3, 0, 1, 0, 1, api.ErrDeadlock)
	b.check()
	b.move(4, 5, 6, 0, 1, api.ErrDeadlock)
	b.check()
	b.begin(api.OK)
	b.look(5, 0, 10, api.ErrWait)          // for the request of 1
	b.move(2, 5, 6, 0, 1, api.ErrDeadlock) // waits for 1, and for the request of 5
	b.checkStates(api.TxActive, api.TxAborted, api.TxAborted, api.TxAborted, api.TxAborted)
	b.check()
}

// checkStates checks the states of the transactions from 1 on.
func (b *bench) checkStates(states ...int) {
	b.t.Helper()
	for i, want := range states {
		if state := b.book.State(i + 1); state != want {
			b.t.Errorf("State(%d) = %d, not %d", i+1, state, want)
		}
	}
}

// Two in one deadlock are aborted by one call: first the greater one, and then the one that calls.
func TestOtherOneIsAbortedFirst(t *testing.T) {
	b := newBench(t, blank(10), 4)
	b.look(1, 0, 1, api.OK)
	b.look(2, 1, 3, api.OK)
	b.look(3, 0, 1, api.OK)
	b.move(1, 1, 2, 0, 1, api.ErrWait)
	b.move(3, 2, 3, 0, 1, api.ErrWait)
	b.look(4, 2, 3, api.ErrWait) // for the request of 3
	b.check()
	b.move(2, 0, 1, 0, 1, api.ErrDeadlock)
	b.checkStates(api.TxActive, api.TxAborted, api.TxAborted, api.TxActive)
	b.check()
}

// One who waits for a deadlock, but for whom nobody in it waits, is not part of it, however great its number; nor is one for whom it waits.
func TestBesideADeadlock(t *testing.T) {
	b := newBench(t, blank(10), 4)
	b.look(1, 0, 1, api.OK)
	b.look(1, 5, 6, api.OK)
	b.look(2, 1, 2, api.OK)
	b.look(3, 2, 3, api.OK)
	b.move(4, 5, 6, 0, 1, api.ErrWait)
	b.move(1, 1, 3, 0, 1, api.ErrWait)
	b.move(2, 0, 1, 0, 1, api.ErrDeadlock)
	b.checkStates(api.TxWaiting, api.TxAborted, api.TxActive, api.TxWaiting)
	b.check()
}

// A request that precedes one in the queue is waited for.
func TestDeadlockByTheQueue(t *testing.T) {
	b := newBench(t, blank(10), 3)
	b.look(1, 0, 5, api.OK)
	b.look(3, 5, 6, api.OK)
	b.move(2, 0, 10, 0, 1, api.ErrWait)
	b.move(3, 8, 9, 0, 1, api.ErrDeadlock) // waits for the request of 2, and 2 for the lock of 3
	b.check()
	b.move(1, 0, 5, 0, 1, api.OK)
	b.checkStates(api.TxActive, api.TxAborted, api.TxAborted)
	b.check()
}

// One that follows it is not.
func TestNoDeadlockByTheQueue(t *testing.T) {
	b := newBench(t, blank(10), 3)
	b.look(1, 0, 5, api.OK)
	b.move(2, 0, 6, 0, 1, api.ErrWait)
	b.look(3, 5, 10, api.ErrWait)
	b.checkStates(api.TxActive, api.TxWaiting, api.TxWaiting)
	b.check()
	b.commit(1, api.OK)
	b.checkStates(api.TxCommitted, api.TxActive, api.TxWaiting)
	b.check()
}

// Each transaction waits for the next one, and the last call, of any of them, closes the ring.
func TestRings(t *testing.T) {
	for _, n := range []int{2, 3, 5, api.MaxTx} {
		for _, last := range []int{1, (n + 1) / 2, n - 1, n} {
			checkRing(t, n, last)
		}
	}
}

func checkRing(t *testing.T, n, last int) {
	t.Helper()
	b := newBench(t, blank(n), n)
	for tx := 1; tx <= n; tx++ {
		b.look(tx, tx-1, tx, api.OK)
	}
	for i := range n - 1 {
		tx := (last+i)%n + 1
		b.move(tx, tx%n, tx%n+1, 0, 0, api.ErrWait)
	}
	want := api.ErrWait
	switch last {
	case n:
		want = api.ErrDeadlock
	case n - 1: // it waits for n alone
		want = api.OK
	}
	b.move(last, last%n, last%n+1, 0, 0, want)
	for tx := 1; tx < n-1; tx++ {
		b.checkTx(tx)
	}
	if b.book.State(n) != api.TxAborted || b.book.State(n-1) != api.TxActive {
		t.Errorf("the states are %d and %d", b.book.State(n), b.book.State(n-1))
	}
	b.check()
}

// Rings that meet in the transaction that calls: all but 1 and 2 are aborted.
func TestSeveralRings(t *testing.T) {
	b := newBench(t, blank(10), 5)
	for tx := 1; tx <= 5; tx++ {
		b.look(tx, tx, tx+1, api.OK)
	}
	b.move(3, 2, 3, 0, 1, api.ErrWait)
	b.move(2, 1, 2, 0, 1, api.ErrWait)
	b.move(5, 4, 5, 0, 1, api.ErrWait)
	b.move(4, 1, 2, 0, 1, api.ErrWait)
	b.move(1, 3, 6, 0, 1, api.OK) // waited for 3, 4 and 5
	b.checkStates(api.TxActive, api.TxWaiting, api.TxAborted, api.TxAborted, api.TxAborted)
	b.check()
}
