package clerk_test

import (
	"math"
	"testing"

	"guilloche/api"
)

// badRanges returns ranges that are not valid for a map with so many pieces.
func badRanges(size int) [][2]int {
	return [][2]int{{-1, 0}, {-1, -1}, {0, size + 1}, {size, size + 1}, {size + 1, size + 1}, {1, 0}, {size, size - 1},
		{math.MinInt, math.MaxInt}, {math.MaxInt, math.MinInt}, {0, math.MaxInt}, {math.MinInt, 0}, {math.MinInt, math.MinInt}, {math.MaxInt, math.MaxInt}}
}

func badTags() []int { return []int{-1, api.MaxTags, math.MinInt, math.MaxInt} }

// Transactions 1 to 4 are committed, aborted, active and waiting; what is named first comes first.
func TestErrors(t *testing.T) {
	b := newBench(t, blank(6), 4)
	b.commit(1, api.OK)
	b.abort(2, api.OK)
	b.move(3, 0, 3, 0, 1, api.OK)
	b.look(4, 0, 6, api.ErrWait)
	cases := map[int]api.Errno{1: api.ErrCommitted, 2: api.ErrAborted, 4: api.ErrWait}
	for _, tx := range unknown(5) {
		cases[tx] = api.ErrTx
	}
	for tx, want := range cases {
		for _, lo := range []int{-1, 0, 6} {
			b.look(tx, lo, 6, want)
			b.move(tx, lo, 6, 0, 16, want)
			b.move(tx, lo, 6, 0, 1, want)
		}
	}
	for _, bad := range badRanges(6) {
		b.look(3, bad[0], bad[1], api.ErrRange)
		b.move(3, bad[0], bad[1], 0, 0, api.ErrRange)
		b.move(3, bad[0], bad[1], -1, 16, api.ErrRange)
	}
	for _, tag := range badTags() {
		b.move(3, 0, 6, tag, 0, api.ErrArg) // comes before the lock
		b.move(3, 0, 6, 0, tag, api.ErrArg)
		b.move(3, 2, 2, 0, tag, api.ErrArg)
	}
	b.check()
}

func TestEmptyRanges(t *testing.T) {
	b := newBench(t, blank(6), 2)
	b.move(1, 0, 6, 0, 1, api.OK)
	for at := range 7 {
		b.look(2, at, at, api.OK)
		b.move(2, at, at, 5, 9, api.OK)
	}
	b.checkLocks("Held", b.book.Held(2), nil)
	b.check()
	b.commit(2, api.OK)
	b.checkNow(blank(6))
	b.check()
}

// A move changes nothing if one of its pieces has another tag, but keeps its lock.
func TestMoveOfOtherTags(t *testing.T) {
	b := newBench(t, []int{0, 1, 1, 1, 0}, 2)
	b.move(1, 0, 4, 1, 2, api.ErrState)
	b.move(1, 1, 5, 1, 2, api.ErrState)
	b.move(1, 1, 4, 0, 2, api.ErrState)
	b.move(1, 0, 5, 1, 1, api.ErrState)
	b.check()
	b.look(2, 4, 5, api.ErrWait)
	b.move(1, 1, 4, 1, 2, api.OK)
	b.move(1, 1, 4, 1, 2, api.ErrState)
	b.move(1, 2, 3, 2, 2, api.OK)
	b.commit(1, api.OK)
	b.checkNow([]int{0, 2, 2, 2, 0})
	b.check()
}

func TestAllTags(t *testing.T) {
	b := newBench(t, blank(2), 1)
	for tag := range api.MaxTags {
		b.move(1, 0, 2, tag, (tag+1)%api.MaxTags, api.OK)
		b.look(1, 0, 2, api.OK)
	}
	b.check()
}

// A look sees the committed moves and those of its own transaction.
func TestLookSees(t *testing.T) {
	b := newBench(t, blank(9), 3)
	b.move(1, 0, 3, 0, 1, api.OK)
	b.move(2, 5, 9, 0, 2, api.OK)
	b.look(1, 0, 5, api.OK)
	b.commit(2, api.OK)
	b.look(1, 0, 9, api.OK)
	b.move(1, 6, 7, 2, 3, api.OK)
	b.look(1, 1, 7, api.OK)
	b.look(3, 7, 9, api.OK)
	b.check()
}

// A look returns all runs, however many.
func TestLookAtManyRuns(t *testing.T) {
	b := newBench(t, stripes(api.MaxRuns), 1)
	b.look(1, 0, api.MaxRuns, api.OK)
	b.check()
}

// Which of two requests for which ranges conflict.
func TestConflicts(t *testing.T) {
	for _, c := range []struct {
		first, second bool // for writing
		want          api.Errno
	}{{false, false, api.OK}, {false, true, api.ErrWait}, {true, false, api.ErrWait}, {true, true, api.ErrWait}} {
		for _, r := range [][2]int{{0, 2}, {0, 3}, {2, 3}, {3, 5}, {4, 6}, {2, 6}, {5, 6}, {6, 9}, {0, 9}} {
			b := newBench(t, blank(9), 2)
			b.ask(1, 3, 5, c.first, api.OK)
			want := c.want
			if r[1] <= 3 || r[0] >= 5 {
				want = api.OK
			}
			b.ask(2, r[0], r[1], c.second, want)
			b.check()
		}
	}
}

// ask looks, or moves from 0 to 0.
func (b *bench) ask(tx, lo, hi int, write bool, want api.Errno) {
	b.t.Helper()
	if write {
		b.move(tx, lo, hi, 0, 0, want)
	} else {
		b.look(tx, lo, hi, want)
	}
}

// A request waits for a waiting one before it, even if no lock is in its way.
func TestNobodyIsPassed(t *testing.T) {
	b := newBench(t, blank(9), 5)
	b.look(1, 0, 3, api.OK)
	b.move(2, 2, 6, 0, 1, api.ErrWait)
	b.look(3, 5, 7, api.ErrWait)
	b.move(4, 6, 9, 0, 1, api.ErrWait)
	b.look(5, 0, 2, api.OK)
	b.look(5, 3, 4, api.ErrWait)
	b.check()
	b.abort(2, api.OK) // 3 and 5 are granted, and 4 waits for 3
	b.check()
	b.commit(3, api.OK)
	b.check()
	b.move(4, 6, 9, 0, 1, api.OK) // is to be repeated
	b.commit(4, api.OK)
	b.checkNow([]int{0, 0, 0, 0, 0, 0, 1, 1, 1})
	b.check()
}

// A transaction may read what it writes, and write what it alone reads.
func TestOwnLocksDoNotConflict(t *testing.T) {
	b := newBench(t, blank(9), 2)
	b.look(1, 0, 5, api.OK)
	b.move(1, 3, 8, 0, 1, api.OK)
	b.move(1, 0, 3, 0, 1, api.OK)
	b.look(1, 2, 9, api.OK)
	b.look(2, 8, 9, api.OK)
	b.move(1, 7, 9, 1, 1, api.ErrWait)
	b.check()
	b.commit(2, api.OK)
	b.move(1, 7, 9, 1, 1, api.ErrState)
	b.check()
}

// fill lets transactions 1 to 16 hold so many locks, of one piece each.
func (b *bench) fill(locks int) {
	b.t.Helper()
	for at := range locks {
		b.look(at/64+1, at, at+1, api.OK)
	}
}

func TestTooManyLocks(t *testing.T) {
	b := newBench(t, blank(2000), 18)
	b.fill(api.MaxLocks)
	for tx := 1; tx <= 18; tx++ {
		b.look(tx, 1500, 1501, api.ErrFull)
		b.move(tx, 1500, 1501, 7, 7, api.ErrFull) // comes before ErrState
		b.look(tx, 1500, 1500, api.OK)
	}
	b.move(1, 0, 1, 0, 1, api.ErrFull) // read locks are not enough
	b.move(17, 0, 1, 0, 1, api.ErrFull)
	b.look(1, 0, 64, api.OK)
	b.look(1, 0, 2001, api.ErrRange)
	b.move(1, 1500, 1501, 0, 16, api.ErrArg)
	b.check()
	b.commit(16, api.OK)
	for at := range 64 {
		b.move(17, 1500+at, 1501+at, 0, 1, api.OK)
	}
	b.look(18, 1499, 1500, api.ErrFull)
	b.check()
}

func TestRequestsCountAsLocks(t *testing.T) {
	b := newBench(t, blank(2000), 20)
	b.fill(api.MaxLocks - 2)
	b.move(17, 0, 1, 0, 1, api.ErrWait)
	b.move(18, 1, 2, 0, 1, api.ErrWait)
	b.look(19, 0, 1, api.ErrFull)
	b.look(19, 1500, 1501, api.ErrFull)
	b.check()
	b.abort(17, api.OK)
	b.look(19, 1500, 1501, api.OK)
	b.look(20, 1501, 1502, api.ErrFull)
	b.abort(18, api.OK)
	b.look(20, 1501, 1502, api.OK)
	b.check()
}
