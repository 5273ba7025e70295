package journal_test

import (
	"math"
	"math/rand/v2"
	"slices"
	"strconv"
	"strings"
	"testing"

	"guilloche/api"
	"guilloche/journal"
)

// What a journal may contain after a crash is computed here from the calls, without a look at the disk.

const many = math.MaxInt // more writes than any block has pending

func newSource(seed uint64) *rand.Rand { return rand.New(rand.NewPCG(seed, 7)) }

func newDisk(t *testing.T, blocks int) *journal.Disk {
	t.Helper()
	d, err := journal.NewDisk(blocks)
	if err != api.OK {
		t.Fatalf("NewDisk(%d) = %d", blocks, err)
	}
	return d
}

// unitsOf counts the units of strings one by one.
func unitsOf(texts ...string) int {
	count := 0
	for _, text := range texts {
		count++
		for rest := len(text); rest > api.Payload; rest -= api.Payload {
			count++
		}
	}
	return count
}

func expect(t *testing.T, what string, got, want api.Errno) {
	t.Helper()
	if got != want {
		t.Errorf("%s = %d, not %d", what, got, want)
	}
}

// form is what a journal contains.
type form struct {
	state   string
	records []string
}

func (f form) equal(g form) bool { return f.state == g.state && slices.Equal(f.records, g.records) }

// with returns the form with more records.
func (f form) with(records ...string) form {
	return form{f.state, slices.Concat(f.records, records)}
}

// history is what was done with a disk.
type history struct {
	made    bool     // Open does not return ErrFormat any more
	saved   form     // was durable at the last successful call
	added   []string // since then
	instead []form   // what calls that returned ErrOff may have made of it since then
}

func (h *history) save(f form) { *h = history{made: true, saved: f} }

// allows reports whether a journal that is opened may contain this.
func (h *history) allows(f form) bool {
	for _, g := range h.instead {
		if g.equal(f) {
			return true
		}
	}
	for k := range len(h.added) + 1 {
		if h.made && h.saved.with(h.added[:k]...).equal(f) {
			return true
		}
	}
	return false
}

func (h *history) copy() history {
	out := *h
	out.added, out.instead = slices.Clone(h.added), slices.Clone(h.instead)
	return out
}

// bench is a disk with the journal that is open on it, or nil.
type bench struct {
	t       *testing.T
	disk    *journal.Disk
	j       *journal.Journal
	history history
	now     form // what the journal contains
	durable int
	count   int // makes all strings different
}

func newBench(t *testing.T, blocks int) *bench {
	t.Helper()
	return &bench{t: t, disk: newDisk(t, blocks)}
}

// openBench returns a bench with an empty journal.
func openBench(t *testing.T, blocks int) *bench {
	t.Helper()
	b := newBench(t, blocks)
	b.format()
	b.open()
	return b
}

// clone returns an independent bench on which no journal is open.
func (b *bench) clone() *bench {
	return &bench{t: b.t, disk: b.disk.Clone(), history: b.history.copy(), count: b.count}
}

// text returns a string of that many bytes that no other call returns, if it is long enough.
func (b *bench) text(bytes int) string {
	b.count++
	word := strconv.Itoa(b.count) + "/"
	return strings.Repeat(word, bytes/len(word)+1)[:bytes]
}

func (b *bench) units() int { return (b.disk.Blocks() - 2) / 2 }

// settle checks the error of a call. If the call has turned the disk off, there is no journal any more, and settle reports it.
func (b *bench) settle(what string, err api.Errno) bool {
	b.t.Helper()
	if err != api.OK && (err != api.ErrOff || !b.disk.Off()) || err == api.OK && b.disk.Off() {
		b.t.Fatalf("%s = %d", what, err)
	}
	if b.j != nil {
		b.checkJournal(what)
	}
	if err != api.OK {
		b.j = nil
	}
	return err == api.OK
}

// checkJournal checks what the journal says that it contains.
func (b *bench) checkJournal(what string) {
	b.t.Helper()
	got := form{b.j.State(), b.j.Records()}
	if !got.equal(b.now) || b.j.Durable() != b.durable {
		b.t.Fatalf("after %s the journal contains %q, %d durable; not %q, %d", what, got, b.j.Durable(), b.now, b.durable)
	}
	if room := b.units() - unitsOf(b.now.state) - unitsOf(b.now.records...); b.j.Room() != room {
		b.t.Fatalf("after %s the room is %d, not %d", what, b.j.Room(), room)
	}
}

func (b *bench) format() bool {
	b.t.Helper()
	b.j = nil
	err := journal.Format(b.disk)
	if err == api.OK {
		b.history.save(form{})
	} else {
		b.history.instead = append(b.history.instead, form{})
	}
	return b.settle("Format", err)
}

// open returns whether there is a journal now.
func (b *bench) open() bool {
	b.t.Helper()
	b.j = nil
	j, err := journal.Open(b.disk)
	if err == api.ErrFormat && !b.history.made {
		return false
	}
	if !b.settle("Open", err) {
		return false
	}
	b.j, b.now = j, form{j.State(), j.Records()}
	if !b.history.allows(b.now) {
		b.t.Fatalf("opened: %q; of %v", b.now, b.history)
	}
	b.history.save(b.now)
	b.durable = len(b.now.records)
	b.checkJournal("Open")
	return true
}

func (b *bench) append(record string) bool {
	b.t.Helper()
	err := b.j.Append(record)
	b.history.added = append(b.history.added, record)
	if err == api.OK {
		b.now = b.now.with(record)
	}
	return b.settle("Append", err)
}

func (b *bench) commit() bool {
	b.t.Helper()
	err := b.j.Commit()
	if err == api.OK {
		b.history.save(b.now)
		b.durable = len(b.now.records)
	}
	return b.settle("Commit", err)
}

func (b *bench) checkpoint(state string) bool {
	b.t.Helper()
	err := b.j.Checkpoint(state)
	if err == api.OK {
		b.now, b.durable = form{state: state}, 0
		b.history.save(b.now)
	} else {
		b.history.instead = append(b.history.instead, form{state: state})
	}
	return b.settle("Checkpoint", err)
}

// crash lets the disk crash, and opens its journal. It returns whether there is one.
func (b *bench) crash(keep []int) bool {
	b.t.Helper()
	expect(b.t, "Crash", b.disk.Crash(keep), api.OK)
	if !b.open() {
		return false
	}
	for _, again := range [][]int{nil, {many}} {
		before := b.now
		b.disk.Crash(again)
		if !b.open() || !b.now.equal(before) {
			b.t.Fatalf("after another crash: %q, not %q", b.now, before)
		}
	}
	return true
}

// contents returns all blocks of a disk.
func contents(t *testing.T, d *journal.Disk) []string {
	t.Helper()
	var out []string
	for i := range d.Blocks() {
		content, err := d.Read(i)
		if err != api.OK || len(content) != api.BlockSize {
			t.Fatalf("Read(%d) = %q, %d", i, content, err)
		}
		out = append(out, content)
	}
	return out
}

// after returns the contents that a crash would leave.
func after(t *testing.T, d *journal.Disk, keep []int) []string {
	t.Helper()
	d = d.Clone()
	d.Crash(keep)
	return contents(t, d)
}

// random returns a string of that many random bytes.
func random(r *rand.Rand, bytes int) string {
	var out strings.Builder
	for range bytes {
		out.WriteByte(byte(r.Uint32()))
	}
	return out.String()
}
