package journal_test

import (
	"slices"
	"strings"
	"testing"

	"guilloche/api"
	"guilloche/journal"
)

func TestExample(t *testing.T) {
	b := openBench(t, 20)
	if b.j.Room() != 8 {
		t.Errorf("Room = %d", b.j.Room())
	}
	b.append(b.text(41))
	if b.j.Room() != 6 {
		t.Errorf("Room = %d", b.j.Room())
	}
}

// A crash of nothing loses what was not committed, or nothing.
func TestCrashOfOneRecord(t *testing.T) {
	b := openBench(t, 20)
	b.append("a")
	b.commit()
	b.append("b")
	b.crash(nil)
	if !slices.Equal(b.now.records, []string{"a"}) && !slices.Equal(b.now.records, []string{"a", "b"}) {
		t.Errorf("the records are %q", b.now.records)
	}
}

func TestNoJournal(t *testing.T) {
	for _, blocks := range []int{8, 9, 20, api.MaxBlocks} {
		d := newDisk(t, blocks)
		for range 2 {
			if j, err := journal.Open(d); j != nil || err != api.ErrFormat {
				t.Errorf("Open of a new disk = %v, %d", j, err)
			}
			d.Crash(nil)
		}
	}
}

func TestFormatIsDurable(t *testing.T) {
	for _, blocks := range []int{8, 9, 20, 21, api.MaxBlocks - 1, api.MaxBlocks} {
		b := newBench(t, blocks)
		b.format()
		b.crash(nil)
		if !b.now.equal(form{}) {
			t.Errorf("a new journal contains %q", b.now)
		}
		for _, record := range []string{"x", "y"} {
			b.append(record)
			b.commit()
		}
		b.checkpoint("z")
		b.append("u")
		b.commit()
		b.format()
		b.crash(nil)
		if !b.now.equal(form{}) {
			t.Errorf("a journal that was formatted again contains %q", b.now)
		}
	}
}

// Strings of all lengths that matter, and of any bytes, are the same after a crash.
func TestStrings(t *testing.T) {
	r := newSource(2)
	b := openBench(t, 2000)
	for _, bytes := range []int{0, 1, 39, 40, 41, 79, 80, 81, 1000, 1023, 1024} {
		for _, text := range []string{b.text(bytes), random(r, bytes), strings.Repeat("\x00", bytes), strings.Repeat("\xff", bytes)} {
			b.checkpoint(text)
			b.append(text)
			b.append(text)
			b.commit()
			b.crash(nil)
			if !b.now.equal(form{text, []string{text, text}}) {
				t.Fatalf("%q became %q", text, b.now)
			}
		}
	}
}

func TestGreatStates(t *testing.T) {
	b := openBench(t, api.MaxBlocks)
	for _, bytes := range []int{api.MaxState, api.MaxState - 1, 40000} {
		state := b.text(bytes)
		b.checkpoint(state)
		record := b.text(api.MaxRecord)
		b.append(record)
		b.commit()
		b.crash(nil)
		if !b.now.equal(form{state, []string{record}}) {
			t.Errorf("a state of %d bytes is lost", bytes)
		}
	}
	long := strings.Repeat("a", api.MaxState+1)
	expect(t, "Checkpoint of a longer state", b.j.Checkpoint(long), api.ErrArg)
	expect(t, "Append of a longer record", b.j.Append(long[:api.MaxRecord+1]), api.ErrArg)
	b.checkJournal("errors")
}

// A disk takes exactly as many units as it has.
func TestFullDisks(t *testing.T) {
	for _, blocks := range []int{8, 9, 10, 20, 21, 101} {
		b := openBench(t, blocks)
		for count := range min(4, b.units()+1) {
			b.checkpoint(b.text(count * api.Payload))
			for free := b.j.Room(); free > 0; free = b.j.Room() {
				if free*api.Payload < api.MaxRecord {
					expect(t, "Append of too much", b.j.Append(b.text(free*api.Payload+1)), api.ErrFull)
				}
				b.append(b.text(min(free, 1+count) * api.Payload))
			}
			expect(t, "Append to a full disk", b.j.Append(""), api.ErrFull)
			full := b.now
			b.commit()
			b.crash(nil)
			if !b.now.equal(full) {
				t.Errorf("of %q there is %q", full, b.now)
			}
		}
		expect(t, "Checkpoint of too much", b.j.Checkpoint(b.text(b.units()*api.Payload+1)), api.ErrFull)
		b.checkJournal("errors")
		b.checkpoint(b.text(b.units() * api.Payload))
		b.crash(nil)
	}
}

func TestEmptyRecordsTakeUnits(t *testing.T) {
	b := openBench(t, 20)
	for range 8 {
		b.append("")
	}
	expect(t, "Append to a full disk", b.j.Append(""), api.ErrFull)
	b.commit()
	b.crash(nil)
	if !b.now.equal(form{records: make([]string, 8)}) {
		t.Errorf("the journal contains %q", b.now)
	}
	expect(t, "Append to a full disk", b.j.Append(""), api.ErrFull)
	expect(t, "Append of too much to a full disk", b.j.Append(strings.Repeat("a", api.MaxRecord+1)), api.ErrArg)
	expect(t, "Checkpoint of too much", b.j.Checkpoint(b.text(9*api.Payload+1)), api.ErrFull)
	expect(t, "Checkpoint of far too much", b.j.Checkpoint(strings.Repeat("a", api.MaxState+1)), api.ErrArg)
	b.checkJournal("errors")
	b.checkpoint(b.text(9 * api.Payload))
	expect(t, "Append to a full disk", b.j.Append(""), api.ErrFull)
	b.crash(nil)
}

func TestUnusableJournal(t *testing.T) {
	for _, j := range []*journal.Journal{nil, {}} {
		if j.State() != "" || len(j.Records()) != 0 || j.Durable() != 0 || j.Room() != 0 {
			t.Errorf("an unusable journal: %q, %q, %d, %d", j.State(), j.Records(), j.Durable(), j.Room())
		}
		for _, text := range []string{"", "a", strings.Repeat("a", api.MaxState+1)} {
			expect(t, "Append", j.Append(text), api.ErrUnusable)
			expect(t, "Checkpoint", j.Checkpoint(text), api.ErrUnusable)
		}
		expect(t, "Commit", j.Commit(), api.ErrUnusable)
	}
}

// used returns a bench whose journal has a state, durable records and one that is not committed.
func used(t *testing.T) *bench {
	t.Helper()
	b := openBench(t, 40)
	b.checkpoint("state")
	b.append("first")
	b.append(b.text(50))
	b.commit()
	b.append("third")
	return b
}

// expectBroken checks that the journal returns what it contained last, and that it does nothing any more.
func expectBroken(t *testing.T, what string, b *bench) {
	t.Helper()
	lost, kept := after(t, b.disk, nil), after(t, b.disk, []int{many})
	for _, text := range []string{"", "a", strings.Repeat("a", api.MaxState+1)} {
		expect(t, "Append after "+what, b.j.Append(text), api.ErrBroken)
		expect(t, "Checkpoint after "+what, b.j.Checkpoint(text), api.ErrBroken)
	}
	expect(t, "Commit after "+what, b.j.Commit(), api.ErrBroken)
	b.checkJournal(what)
	if !slices.Equal(after(t, b.disk, nil), lost) || !slices.Equal(after(t, b.disk, []int{many}), kept) {
		t.Errorf("after %s a broken journal has written", what)
	}
}

func TestBrokenJournals(t *testing.T) {
	cut := func(d *journal.Disk) {
		d.Fuse(0)
		d.Sync()
	}
	for what, harm := range map[string]func(d *journal.Disk){
		"Crash":                 func(d *journal.Disk) { d.Crash(nil) },
		"Crash of what was off": func(d *journal.Disk) { cut(d); d.Crash([]int{1}) },
		"Format":                func(d *journal.Disk) { journal.Format(d) },
		"Open":                  func(d *journal.Disk) { journal.Open(d) },
		"Format while off":      func(d *journal.Disk) { cut(d); journal.Format(d) },
		"Open while off":        func(d *journal.Disk) { cut(d); journal.Open(d) },
		"Format with a fuse":    func(d *journal.Disk) { d.Fuse(0); journal.Format(d) },
	} {
		b := used(t)
		harm(b.disk)
		expectBroken(t, what, b)
		b.disk.Crash(nil)
		expectBroken(t, what+" and Crash", b)
		journal.Open(b.disk)
		expectBroken(t, what+" and Open", b)
	}
}

// A call that finds the disk off breaks the journal, whatever its argument is.
func TestOff(t *testing.T) {
	long := strings.Repeat("a", api.MaxState+1)
	for what, call := range map[string]func(j *journal.Journal) api.Errno{
		"Append":                 func(j *journal.Journal) api.Errno { return j.Append("a") },
		"Append of too much":     func(j *journal.Journal) api.Errno { return j.Append(long) },
		"Commit":                 func(j *journal.Journal) api.Errno { return j.Commit() },
		"Checkpoint":             func(j *journal.Journal) api.Errno { return j.Checkpoint("a") },
		"Checkpoint of too much": func(j *journal.Journal) api.Errno { return j.Checkpoint(long) },
	} {
		b := used(t)
		b.disk.Fuse(0)
		b.disk.Sync()
		b.checkJournal("Sync")
		expect(t, what, call(b.j), api.ErrOff)
		expectBroken(t, what, b)
	}
}

// A call during which the disk is turned off breaks the journal, and leaves unchanged what it contains.
func TestTurnedOff(t *testing.T) {
	for what, call := range map[string]func(b *bench) api.Errno{
		"Commit":          func(b *bench) api.Errno { return b.j.Commit() },
		"Checkpoint":      func(b *bench) api.Errno { return b.j.Checkpoint("a") },
		"long Checkpoint": func(b *bench) api.Errno { return b.j.Checkpoint(b.text(200)) },
	} {
		for fuse := range 50 {
			b := used(t)
			b.disk.Fuse(fuse)
			err := call(b)
			if err == api.OK && fuse > 0 {
				break
			}
			expect(t, what, err, api.ErrOff)
			if !b.disk.Off() {
				t.Fatalf("%s has left the disk on", what)
			}
			expectBroken(t, what, b)
		}
	}
}

// Journals on other disks, and on clones, have nothing to do with each other.
func TestClonesAreIndependent(t *testing.T) {
	b := used(t)
	c, d := b.clone(), b.clone()
	c.open()
	c.append("of c")
	c.commit()
	d.format()
	b.commit()
	b.checkJournal("calls for clones")
	b.checkpoint("of b")
	c.commit()
	for _, x := range []*bench{c, b} {
		x.disk.Crash(nil)
	}
	d.open()
	b.open()
	c.open()
	if b.now.state != "of b" || c.now.records[len(c.now.records)-1] != "of c" || !d.now.equal(form{}) {
		t.Errorf("the journals contain %q, %q, %q", b.now, c.now, d.now)
	}
}

func TestRecordsAreNew(t *testing.T) {
	b := used(t)
	for range 2 {
		for _, records := range [][]string{b.j.Records(), b.j.Records()[:1]} {
			records[0] = "changed"
			_ = append(records, "changed")
		}
		b.checkJournal("a change of its records")
		b.append("more")
	}
}
