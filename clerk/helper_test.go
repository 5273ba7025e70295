package clerk_test

import (
	"math"
	"math/rand/v2"
	"reflect"
	"slices"
	"testing"

	"guilloche/api"
	"guilloche/clerk"
	"guilloche/span"
)

// What a book must answer is computed here piece by piece, with the words of the chapter: a transaction sees the map of New, changed by the committed transactions one after the other, and then by itself.

func newSource(seed uint64) *rand.Rand { return rand.New(rand.NewPCG(seed, 8)) }

// model is a book for few pieces.
type model struct {
	first []int // the tags of the pieces at the beginning
	txs   []*modelTx
	queue []api.Lock
	log   []api.Done
}

type modelTx struct {
	state int
	locks []api.Lock
	ops   []api.Op
}

// tx returns a transaction, or nil.
func (m *model) tx(number int) *modelTx {
	if number < 1 || number > len(m.txs) {
		return nil
	}
	return m.txs[number-1]
}

func (m *model) state(number int) int {
	if t := m.tx(number); t != nil {
		return t.state
	}
	return api.TxUnknown
}

func (t *modelTx) inProgress() bool { return t.state == api.TxActive || t.state == api.TxWaiting }

func (m *model) countInProgress() int {
	count := 0
	for _, t := range m.txs {
		if t.inProgress() {
			count++
		}
	}
	return count
}

func countMoves(ops []api.Op) int {
	count := 0
	for _, op := range ops {
		if op.Move {
			count++
		}
	}
	return count
}

func perform(tags []int, ops []api.Op) {
	for _, op := range ops {
		for at := op.Lo; at < op.Hi && op.Move; at++ {
			tags[at] = op.To
		}
	}
}

// now returns the tags as the committed transactions have changed them.
func (m *model) now() []int {
	tags := slices.Clone(m.first)
	for _, done := range m.log {
		perform(tags, done.Ops)
	}
	return tags
}

// view returns the tags as a transaction sees them.
func (m *model) view(t *modelTx) []int {
	tags := m.now()
	perform(tags, t.ops)
	return tags
}

// runsOf returns the runs of a range of pieces with these tags.
func runsOf(tags []int, lo, hi int) []api.Run {
	var out []api.Run
	for at := lo; at < hi; at++ {
		if n := len(out); n > 0 && out[n-1].Tag == tags[at] {
			out[n-1].Hi++
		} else {
			out = append(out, api.Run{Lo: at, Hi: at + 1, Tag: tags[at]})
		}
	}
	return out
}

func (m *model) room() int {
	free := api.MaxRuns - len(runsOf(m.now(), 0, len(m.first)))
	for _, t := range m.txs {
		if t.inProgress() {
			free -= 2 * countMoves(t.ops)
		}
	}
	return max(0, int(math.Floor(float64(free)/2)))
}

// clash reports whether two locks or requests conflict.
func clash(a, b api.Lock) bool {
	for at := a.Lo; at < a.Hi; at++ {
		if at >= b.Lo && at < b.Hi {
			return a.Tx != b.Tx && (a.Write || b.Write)
		}
	}
	return false
}

func (t *modelTx) covers(at int, write bool) bool {
	return slices.ContainsFunc(t.locks, func(l api.Lock) bool { return at >= l.Lo && at < l.Hi && (l.Write || !write) })
}

func (t *modelTx) holds(need api.Lock) bool {
	for at := need.Lo; at < need.Hi; at++ {
		if !t.covers(at, need.Write) {
			return false
		}
	}
	return true
}

// isBlocked reports whether a request conflicts with a lock or with one of the requests before it.
func (m *model) isBlocked(request api.Lock, before []api.Lock) bool {
	for _, t := range m.txs {
		before = slices.Concat(before, t.locks)
	}
	return slices.ContainsFunc(before, func(l api.Lock) bool { return clash(l, request) })
}

func (m *model) grant(request api.Lock) {
	t := m.tx(request.Tx)
	t.locks, t.state = append(t.locks, request), api.TxActive
}

// examine examines the waiting requests once.
func (m *model) examine() {
	var waiting []api.Lock
	for _, request := range m.queue {
		if m.isBlocked(request, waiting) {
			waiting = append(waiting, request)
		} else {
			m.grant(request)
		}
	}
	m.queue = waiting
}

// end commits or aborts a transaction.
func (m *model) end(number, state int) {
	t := m.tx(number)
	if state == api.TxCommitted {
		m.log = append(m.log, api.Done{Tx: number, Ops: t.ops})
	}
	t.state, t.locks, t.ops = state, nil, nil
	m.queue = slices.DeleteFunc(m.queue, func(l api.Lock) bool { return l.Tx == number })
	m.examine()
}

// waits returns for all transactions which ones they wait for, directly or by way of others.
func waits(locks, queue []api.Lock, txs int) [][]bool {
	out := make([][]bool, txs+1)
	for tx := range out {
		out[tx] = make([]bool, txs+1)
	}
	for i, request := range queue {
		for _, l := range slices.Concat(locks, queue[:i]) {
			if clash(l, request) {
				out[request.Tx][l.Tx] = true
			}
		}
	}
	for by := range out {
		for from := range out {
			for to := range out {
				out[from][to] = out[from][to] || out[from][by] && out[by][to]
			}
		}
	}
	return out
}

func (m *model) locks() []api.Lock {
	var out []api.Lock
	for _, t := range m.txs {
		out = append(out, t.locks...)
	}
	return out
}

// deadlock returns the greatest transaction in the deadlock of a transaction, or 0.
func (m *model) deadlock(number int) int {
	w := waits(m.locks(), m.queue, len(m.txs))
	for other := len(m.txs); other > 0; other-- {
		if w[number][other] && w[other][number] {
			return other
		}
	}
	return 0
}

func (m *model) obtain(need api.Lock) api.Errno {
	t := m.tx(need.Tx)
	if t.holds(need) {
		return api.OK
	}
	if len(m.locks())+len(m.queue) >= api.MaxLocks {
		return api.ErrFull
	}
	if !m.isBlocked(need, m.queue) {
		m.grant(need)
		return api.OK
	}
	m.queue, t.state = append(m.queue, need), api.TxWaiting
	for victim := m.deadlock(need.Tx); victim != 0; victim = m.deadlock(need.Tx) {
		m.end(victim, api.TxAborted)
		if victim == need.Tx {
			return api.ErrDeadlock
		}
	}
	if t.state == api.TxWaiting {
		return api.ErrWait
	}
	return api.OK
}

func (m *model) begin() (int, api.Errno) {
	if m.countInProgress() >= api.MaxTx {
		return 0, api.ErrFull
	}
	m.txs = append(m.txs, &modelTx{state: api.TxActive})
	return len(m.txs), api.OK
}

// check returns why a transaction can do nothing.
func (m *model) check(number int) api.Errno {
	return [...]api.Errno{
		api.TxUnknown:   api.ErrTx,
		api.TxActive:    api.OK,
		api.TxWaiting:   api.ErrWait,
		api.TxCommitted: api.ErrCommitted,
		api.TxAborted:   api.ErrAborted,
	}[m.state(number)]
}

func (m *model) checkRange(number, lo, hi int) api.Errno {
	if err := m.check(number); err != api.OK {
		return err
	}
	if lo < 0 || lo > hi || hi > len(m.first) {
		return api.ErrRange
	}
	return api.OK
}

func (m *model) look(number, lo, hi int) ([]api.Run, api.Errno) {
	if err := m.checkRange(number, lo, hi); err != api.OK {
		return nil, err
	}
	if err := m.obtain(api.Lock{Tx: number, Lo: lo, Hi: hi}); err != api.OK {
		return nil, err
	}
	t := m.tx(number)
	runs := runsOf(m.view(t), lo, hi)
	t.ops = append(t.ops, api.Op{Lo: lo, Hi: hi, Runs: runs})
	return runs, api.OK
}

func (m *model) move(number, lo, hi, from, to int) api.Errno {
	if err := m.checkRange(number, lo, hi); err != api.OK {
		return err
	}
	if min(from, to) < 0 || max(from, to) >= api.MaxTags {
		return api.ErrArg
	}
	if err := m.obtain(api.Lock{Tx: number, Lo: lo, Hi: hi, Write: true}); err != api.OK {
		return err
	}
	t := m.tx(number)
	if slices.ContainsFunc(m.view(t)[lo:hi], func(tag int) bool { return tag != from }) {
		return api.ErrState
	}
	if m.room() == 0 {
		return api.ErrFull
	}
	t.ops = append(t.ops, api.Op{Move: true, Lo: lo, Hi: hi, From: from, To: to})
	return api.OK
}

func (m *model) commit(number int) (int, api.Errno) {
	if err := m.check(number); err != api.OK {
		return 0, err
	}
	m.end(number, api.TxCommitted)
	return len(m.log), api.OK
}

func (m *model) abort(number int) api.Errno {
	if err := m.check(number); err != api.OK && err != api.ErrWait {
		return err
	}
	m.end(number, api.TxAborted)
	return api.OK
}

// bench is a book with its model. Each of its calls is compared.
type bench struct {
	t     *testing.T
	first span.Map
	book  *clerk.Book
	model *model
}

func newMap(t *testing.T, tags []int) span.Map {
	t.Helper()
	m, err := span.From(len(tags), runsOf(tags, 0, len(tags)))
	if err != api.OK {
		t.Fatalf("From = %d", err)
	}
	return m
}

// newBench returns a bench for pieces with these tags, on which some transactions have begun.
func newBench(t *testing.T, tags []int, txs int) *bench {
	t.Helper()
	first := newMap(t, tags)
	book, err := clerk.New(first)
	if err != api.OK {
		t.Fatalf("New = %d", err)
	}
	b := &bench{t, first, book, &model{first: tags}}
	for range txs {
		b.begin(api.OK)
	}
	return b
}

func (b *bench) expect(what string, err, model, want api.Errno) {
	b.t.Helper()
	if err != model || err != want {
		b.t.Fatalf("%s = %d, not %d (the model: %d)", what, err, want, model)
	}
}

func (b *bench) begin(want api.Errno) {
	b.t.Helper()
	tx, err := b.book.Begin()
	number, model := b.model.begin()
	if tx != number {
		b.t.Fatalf("Begin = %d, not %d", tx, number)
	}
	b.expect("Begin", err, model, want)
}

func (b *bench) look(tx, lo, hi int, want api.Errno) {
	b.t.Helper()
	runs, err := b.book.Look(tx, lo, hi)
	expected, model := b.model.look(tx, lo, hi)
	if !slices.Equal(runs, expected) {
		b.t.Fatalf("Look(%d, %d, %d) = %v, not %v", tx, lo, hi, runs, expected)
	}
	b.expect("Look", err, model, want)
}

func (b *bench) move(tx, lo, hi, from, to int, want api.Errno) {
	b.t.Helper()
	err := b.book.Move(tx, lo, hi, from, to)
	b.expect("Move", err, b.model.move(tx, lo, hi, from, to), want)
}

func (b *bench) commit(tx int, want api.Errno) {
	b.t.Helper()
	count, err := b.book.Commit(tx)
	expected, model := b.model.commit(tx)
	if count != expected {
		b.t.Fatalf("Commit(%d) = %d, not %d", tx, count, expected)
	}
	b.expect("Commit", err, model, want)
}

func (b *bench) abort(tx int, want api.Errno) {
	b.t.Helper()
	err := b.book.Abort(tx)
	b.expect("Abort", err, b.model.abort(tx), want)
}

// check compares all that the book and the model answer.
func (b *bench) check() {
	b.t.Helper()
	for tx := -1; tx <= len(b.model.txs)+1; tx++ {
		b.checkTx(tx)
	}
	b.checkLocks("Queue", b.book.Queue(), b.model.queue)
	if room := b.book.Room(); room != b.model.room() {
		b.t.Fatalf("Room = %d, not %d", room, b.model.room())
	}
	b.checkNow(b.model.now())
	checkLog(b.t, b.book.Log(), b.model.log)
}

func (b *bench) checkTx(tx int) {
	b.t.Helper()
	if state := b.book.State(tx); state != b.model.state(tx) {
		b.t.Fatalf("State(%d) = %d, not %d", tx, state, b.model.state(tx))
	}
	var locks []api.Lock
	if t := b.model.tx(tx); t != nil {
		locks = t.locks
	}
	b.checkLocks("Held", b.book.Held(tx), locks)
}

func (b *bench) checkLocks(what string, got, want []api.Lock) {
	b.t.Helper()
	if !slices.Equal(got, want) {
		b.t.Fatalf("%s = %v, not %v", what, got, want)
	}
}

func (b *bench) checkNow(tags []int) {
	b.t.Helper()
	if !span.Equal(b.book.Now(), newMap(b.t, tags)) {
		b.t.Fatalf("Now has not the tags %v", tags)
	}
}

func checkLog(t *testing.T, got, want []api.Done) {
	t.Helper()
	if len(got) != len(want) {
		t.Fatalf("Log has %d transactions, not %d", len(got), len(want))
	}
	for i := range got {
		same := slices.EqualFunc(got[i].Ops, want[i].Ops, equalOps)
		if got[i].Tx != want[i].Tx || !same {
			t.Fatalf("Log has %v, not %v", got[i], want[i])
		}
	}
}

// equalOps treats an empty list as nil.
func equalOps(a, b api.Op) bool {
	same := slices.Equal(a.Runs, b.Runs)
	a.Runs, b.Runs = nil, nil
	return same && reflect.DeepEqual(a, b)
}

// blank returns so many pieces with the tag 0.
func blank(pieces int) []int { return make([]int, pieces) }

// stripes returns pieces with so many runs, of one piece each.
func stripes(runs int) []int {
	out := make([]int, runs)
	for at := range out {
		out[at] = at % 2
	}
	return out
}
