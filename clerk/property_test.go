package clerk_test

import (
	"math/rand/v2"
	"slices"
	"testing"

	"guilloche/api"
	"guilloche/clerk"
	"guilloche/span"
)

// checkSerial performs the log, transaction by transaction, on the first map.
func checkSerial(t *testing.T, m span.Map, b *clerk.Book) {
	t.Helper()
	for _, done := range b.Log() {
		for _, op := range done.Ops {
			m = performOp(t, m, op)
		}
	}
	if !span.Equal(m, b.Now()) {
		t.Fatal("the log does not lead to Now")
	}
}

func performOp(t *testing.T, m span.Map, op api.Op) span.Map {
	t.Helper()
	if op.Move {
		next, count, err := m.Swap(op.Lo, op.Hi, op.From, op.To)
		if err != api.OK || count != op.Hi-op.Lo || op.Runs != nil {
			t.Fatalf("%v changes %d pieces: %d", op, count, err)
		}
		return next
	}
	runs, err := m.Runs(op.Lo, op.Hi, api.MaxRuns)
	if err != api.OK || !slices.Equal(runs, op.Runs) || op.From != 0 || op.To != 0 {
		t.Fatalf("%v sees %v: %d", op, runs, err)
	}
	return m
}

// checkQuiet checks that no locks conflict, that no transaction waits for itself, and that those that wait, wait for one.
func checkQuiet(t *testing.T, b *clerk.Book, txs int) {
	t.Helper()
	var locks []api.Lock
	for tx := range txs + 1 {
		locks = append(locks, b.Held(tx)...)
	}
	for i, l := range locks {
		if slices.ContainsFunc(locks[:i], func(other api.Lock) bool { return clash(l, other) }) {
			t.Fatalf("there are conflicts in %v", locks)
		}
	}
	w := waits(locks, b.Queue(), txs)
	for tx := range txs + 1 {
		if w[tx][tx] {
			t.Fatalf("%d waits for itself", tx)
		}
		if slices.Contains(w[tx], true) != (b.State(tx) == api.TxWaiting) {
			t.Fatalf("%d has the state %d, and waits for %v", tx, b.State(tx), w[tx])
		}
	}
}

// finish ends every transaction that is active, again and again, until none is.
func (b *bench) finish(r *rand.Rand) {
	b.t.Helper()
	for ended := true; ended; {
		ended = false
		for _, tx := range r.Perm(len(b.model.txs)) {
			if b.book.State(tx+1) != api.TxActive {
				continue
			}
			ended = true
			if r.IntN(3) == 0 {
				b.abort(tx+1, api.OK)
			} else {
				b.commit(tx+1, api.OK)
			}
		}
	}
	b.check()
	if b.model.countInProgress() > 0 || len(b.book.Queue()) > 0 {
		b.t.Fatal("transactions remain in progress")
	}
	checkSerial(b.t, b.first, b.book)
}

// randomTx returns a transaction, mostly one of the last ones.
func (b *bench) randomTx(r *rand.Rand, clerks int) int {
	if r.IntN(40) == 0 {
		return r.IntN(len(b.model.txs)+3) - 1
	}
	return max(1, len(b.model.txs)-r.IntN(clerks))
}

// randomRange returns a range, which is mostly valid.
func randomRange(r *rand.Rand, size int) (int, int) {
	lo, hi := r.IntN(size+1), r.IntN(size+1)
	if r.IntN(40) == 0 {
		return lo - r.IntN(2), hi + r.IntN(2)
	}
	return min(lo, hi), max(lo, hi)
}

// from returns the tag of a piece as the transaction sees it, mostly.
func (b *bench) from(r *rand.Rand, tx, at int) int {
	t := b.model.tx(tx)
	if t == nil || at < 0 || at >= len(b.model.first) || r.IntN(10) == 0 {
		return r.IntN(3)
	}
	return b.model.view(t)[at]
}

// act makes a random call.
func (b *bench) act(r *rand.Rand, clerks int) {
	b.t.Helper()
	tx := b.randomTx(r, clerks)
	lo, hi := randomRange(r, len(b.model.first))
	switch r.IntN(12) {
	case 0:
		number, err := b.book.Begin()
		expected, want := b.model.begin()
		b.same("Begin", number, err, expected, want)
	case 1:
		number, err := b.book.Commit(tx)
		expected, want := b.model.commit(tx)
		b.same("Commit", number, err, expected, want)
	case 2:
		if r.IntN(3) == 0 {
			b.same("Abort", 0, b.book.Abort(tx), 0, b.model.abort(tx))
		}
	case 3, 4, 5, 6:
		runs, err := b.book.Look(tx, lo, hi)
		expected, want := b.model.look(tx, lo, hi)
		b.same("Look", len(runs), err, len(expected), want)
		if !slices.Equal(runs, expected) {
			b.t.Fatalf("Look(%d, %d, %d) = %v, not %v", tx, lo, hi, runs, expected)
		}
	default:
		from, to := b.from(r, tx, lo), r.IntN(3)
		b.same("Move", 0, b.book.Move(tx, lo, hi, from, to), 0, b.model.move(tx, lo, hi, from, to))
	}
}

func (b *bench) same(what string, number int, err api.Errno, expected int, want api.Errno) {
	b.t.Helper()
	if number != expected || err != want {
		b.t.Fatalf("%s = %d, %d; not %d, %d", what, number, err, expected, want)
	}
}

func TestRandomCalls(t *testing.T) {
	r := newSource(1)
	for round := range 1500 {
		tags := blank(1 + round%9)
		for at := range tags {
			tags[at] = r.IntN(2)
		}
		clerks := 1 + r.IntN(7)
		b := newBench(t, tags, clerks)
		for range 60 {
			b.act(r, clerks)
			b.check()
			checkQuiet(t, b.book, len(b.model.txs))
		}
		checkSerial(t, b.first, b.book)
		b.finish(r)
	}
}

// Many clerks at once, with short ranges.
func TestManyClerks(t *testing.T) {
	r := newSource(2)
	for range 10 {
		b := newBench(t, blank(80), api.MaxTx)
		for range 400 {
			tx := 1 + r.IntN(len(b.model.txs))
			lo := r.IntN(80)
			hi := min(80, lo+1+r.IntN(3))
			if r.IntN(3) > 0 {
				_, err := b.book.Look(tx, lo, hi)
				_, want := b.model.look(tx, lo, hi)
				b.same("Look", 0, err, 0, want)
			} else {
				from := b.model.view(b.model.tx(tx))[lo]
				b.same("Move", 0, b.book.Move(tx, lo, hi, from, 1), 0, b.model.move(tx, lo, hi, from, 1))
			}
		}
		b.check()
		checkQuiet(t, b.book, len(b.model.txs))
		b.finish(r)
	}
}

// What happened in a great map is the same as in a small one.
func TestGreatMap(t *testing.T) {
	const half = api.MaxPieces / 2
	first, _ := span.New(api.MaxPieces)
	b, _ := clerk.New(first)
	for range 3 {
		b.Begin()
	}
	got := []api.Errno{
		b.Move(1, 0, half, 0, 1),
		b.Move(2, half, api.MaxPieces, 0, 2),
		b.Move(1, half-1, half+1, 0, 1),
		b.Move(2, half-1, half, 0, 2),
		b.Move(1, half-1, half+1, 1, 3),
		b.Move(3, 0, api.MaxPieces+1, 0, 1),
		b.Move(3, 5, 6, 1, 2),
	}
	want := []api.Errno{api.OK, api.OK, api.ErrWait, api.ErrDeadlock, api.ErrState, api.ErrRange, api.ErrWait}
	if !slices.Equal(got, want) {
		t.Errorf("the moves = %v, not %v", got, want)
	}
	if count, err := b.Commit(1); count != 1 || err != api.OK {
		t.Errorf("Commit = %d, %d", count, err)
	}
	runs, err := b.Look(3, 0, api.MaxPieces)
	if !slices.Equal(runs, []api.Run{{Lo: 0, Hi: half, Tag: 1}, {Lo: half, Hi: api.MaxPieces, Tag: 0}}) || err != api.OK {
		t.Errorf("Look = %v, %d", runs, err)
	}
	checkSerial(t, first, b)
	checkQuiet(t, b, 3)
}

// The same calls have the same results.
func TestCallsDependOnCallsAlone(t *testing.T) {
	for seed := range uint64(20) {
		var logs [][]api.Done
		for range 3 {
			r := newSource(100 + seed)
			b := newBench(t, blank(7), 7)
			for range 150 {
				b.act(r, 7)
			}
			b.finish(r)
			logs = append(logs, b.book.Log())
		}
		checkLog(t, logs[1], logs[0])
		checkLog(t, logs[2], logs[0])
	}
}
