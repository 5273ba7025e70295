package clerk

import (
	"cmp"
	"maps"
	"slices"

	"guilloche/api"
)

// conflict reports whether two locks, or requests for one, conflict. (Their ranges are not empty.)
func conflict(x, y api.Lock) bool {
	return x.Tx != y.Tx && x.Lo < y.Hi && y.Lo < x.Hi && (x.Write || y.Write)
}

// holds reports whether the transaction holds a range already.
func (t *transaction) holds(need api.Lock) bool {
	covered := need.Lo
	for _, l := range slices.SortedFunc(slices.Values(t.locks), byLo) {
		if l.Lo <= covered && (l.Write || !need.Write) {
			covered = max(covered, l.Hi)
		}
	}
	return covered >= need.Hi
}

func byLo(x, y api.Lock) int { return cmp.Compare(x.Lo, y.Lo) }

// obtain obtains a range for a transaction. A deadlock is resolved, which may grant the request or abort the transaction.
func (b *Book) obtain(t *transaction, need api.Lock) api.Errno {
	if t.holds(need) {
		return api.OK
	}
	if b.countLocks() >= api.MaxLocks {
		return api.ErrFull
	}
	b.request(t, need)
	for t.turn > 0 {
		victim := b.victim(need.Tx)
		if victim == 0 {
			return api.ErrWait
		}
		b.abort(victim)
		if victim == need.Tx {
			return api.ErrDeadlock
		}
	}
	return api.OK
}

// countLocks counts all locks and waiting requests.
func (b *Book) countLocks() int {
	count := len(b.requests)
	for _, t := range b.progress {
		count += len(t.locks)
	}
	return count
}

// request adds a request at the end of the queue, and grants it if nothing is in its way.
func (b *Book) request(t *transaction, need api.Lock) {
	b.turns++
	t.turn = b.turns
	b.requests[t.turn] = need
	b.examine(t.turn)
}

// queue returns the turns of the waiting requests, in order.
func (b *Book) queue() []int { return slices.Sorted(maps.Keys(b.requests)) }

// examine grants a waiting request if nothing is in its way.
func (b *Book) examine(turn int) {
	if len(b.rivals(turn)) > 0 {
		return
	}
	request := b.requests[turn]
	delete(b.requests, turn)
	t := b.progress[request.Tx]
	t.turn = 0
	t.locks = append(t.locks, request)
}

// rivals returns the transactions that a waiting request waits for.
func (b *Book) rivals(turn int) map[int]bool {
	request := b.requests[turn]
	isInTheWay := func(l api.Lock) bool { return conflict(l, request) }
	out := map[int]bool{}
	for tx, t := range b.progress {
		if slices.ContainsFunc(t.locks, isInTheWay) {
			out[tx] = true
		}
	}
	for other, r := range b.requests {
		if other < turn && isInTheWay(r) {
			out[r.Tx] = true
		}
	}
	return out
}

// victim returns the transaction with the greatest number in the deadlock of a transaction, or 0.
func (b *Book) victim(tx int) int {
	waits := map[int]map[int]bool{}
	for turn, request := range b.requests {
		waits[request.Tx] = b.rivals(turn)
	}
	greatest := 0
	for other := range reach(waits, tx) {
		if reach(waits, other)[tx] {
			greatest = max(greatest, other)
		}
	}
	return greatest
}

// reach returns the transactions that one waits for, directly or by way of others.
func reach(waits map[int]map[int]bool, tx int) map[int]bool {
	found := map[int]bool{}
	open := []int{tx}
	for len(open) > 0 {
		last := len(open) - 1
		next := open[last]
		open = open[:last]
		for other := range waits[next] {
			if !found[other] {
				found[other] = true
				open = append(open, other)
			}
		}
	}
	return found
}
