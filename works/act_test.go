package works_test

import (
	"fmt"
	"math"
	"slices"
	"strings"
	"testing"

	"guilloche/api"
	"guilloche/works"
)

// The chapter's example.
func TestExample(t *testing.T) {
	b := newBench(t, smallPlant())
	b.expect("mount 0", "mounted 0 0")
	b.expect("print 0 2", "printed 0 0 2")
	b.expect("tick", "dried 0 2")
	b.expect("spoil 0 1", "spoiled 2")
	b.refuse(api.ErrFull, "print 0 9")
}

// A ream from its first sheet to the vault, with the numbers computed by hand.
func TestWholeStory(t *testing.T) {
	b := newBench(t, smallPlant())
	b.say("mount 0", "print 0 2", "tick", "spoil 0 1")
	b.expect("repair 0 0", "replaced 2 0, opened 1, repaired 0 3")
	b.expect("inspect 0 4 0 7", "inspected 0 2 3")
	b.refuse(api.ErrState, "cut 0")
	b.expect("inspect 0 4 1 7", "inspected 0 1 4")
	b.expect("cut 0", "cut 0 3 1")
	b.expect("destroy 0 8 1 100", "destroyed 2 3")
	b.expect("begin", "begun 6")
	b.expect("look 6 0 8", "run 0 2 6, run 2 3 5, run 3 4 6, run 4 8 0, looked 6 0 8")
	b.expect("move 6 0 2 0 -1", "moved 6 0 2")
	b.expect("move 6 3 4 0 1", "moved 6 3 4")
	b.expect("move 6 3 4 0 1", "refused 6")
	b.expect("commit 6", "committed 6 1")
	audited := b.say("audit 1 1 9")
	if !strings.HasPrefix(audited, "drawn 3 ") || !strings.Contains(audited, "\naudited 1 1 ") {
		t.Errorf("audit says %q", audited)
	}
	b.expect("save", "saved 16")
	b.expect("check", fmt.Sprintf("checked %d", len(b.w.Book())))
	b.expect("save", "saved 0")
	b.expect("begin", "begun 7")
	b.expect("save", "saved 1")
	b.expect("crash", "recovered 1, aborted 7")
	want := "now 1\nprinted 2\npress 8\nplates 0\nstars 1\nbegun 7\nreams 3 0\nroot " + audited[len(audited)-65:] +
		"run 0 2 4\nrun 2 3 5\nrun 3 4 7\nrun 4 8 0\n"
	if b.w.Book() != want {
		t.Errorf("Book = %q, not %q", b.w.Book(), want)
	}
}

// Do returns the events whose lines Say returns.
func TestDo(t *testing.T) {
	w, _ := works.New(smallPlant())
	checkEvents := func(a api.Act, wantErr api.Errno, want ...api.Event) {
		t.Helper()
		if got, err := w.Do(a); !slices.Equal(got, want) || err != wantErr {
			t.Errorf("Do(%v) = %v, %d; not %v, %d", a, got, err, want, wantErr)
		}
	}
	checkEvents(api.Act{Kind: api.ActMount}, api.OK, api.Event{Kind: api.EvMounted})
	checkEvents(api.Act{Kind: api.ActMount}, api.ErrPlate)
	checkEvents(api.Act{Kind: api.ActPrint, B: 2}, api.OK, api.Event{Kind: api.EvPrinted, C: 2})
	checkEvents(api.Act{Kind: api.ActTick}, api.OK, api.Event{Kind: api.EvDried, B: 2})
	checkEvents(api.Act{Kind: api.ActTick}, api.OK)
	checkEvents(api.Act{Kind: api.ActSpoil, B: 1}, api.OK, api.Event{Kind: api.EvSpoiled, A: 2})
	checkEvents(api.Act{Kind: api.ActPrint, B: 9}, api.ErrFull)
	checkEvents(api.Act{Kind: api.ActSave}, api.OK, api.Event{Kind: api.EvSaved, A: 5})
	checkEvents(api.Act{Kind: api.ActCrash, Keep: []int{1, 2}}, api.OK, api.Event{Kind: api.EvRecovered, A: 5})
}

func TestInvalidActs(t *testing.T) {
	p := smallPlant()
	p.Blocks = 8
	b := newBench(t, p)
	b.say("tick", "tick") // The journal has no room for any act now, but ErrArg comes first.
	for _, a := range []api.Act{
		{}, {Kind: -1}, {Kind: api.ActCrash + 1}, {Kind: math.MaxInt}, {Kind: math.MinInt},
		{Kind: api.ActTick, A: 1}, {Kind: api.ActMount, B: 1}, {Kind: api.ActPrint, C: 1}, {Kind: api.ActLook, D: 1}, {Kind: api.ActDestroy, E: 1},
		{Kind: api.ActTick, Keep: []int{0}}, {Kind: api.ActCrash, A: 1}, {Kind: api.ActCrash, Keep: make([]int, 17)},
		{Kind: api.ActSave, E: -1}, {Kind: api.ActCheck, B: 2},
	} {
		if events, err := b.w.Do(a); len(events) > 0 || err != api.ErrArg {
			t.Errorf("Do(%v) = %v, %d", a, events, err)
		}
		b.compare("an invalid act")
	}
	b.say("crash" + strings.Repeat(" 5", 16))
	if events, err := b.w.Do(api.Act{Kind: api.ActSave, Keep: []int{}}); len(events) != 1 || err != api.OK {
		t.Errorf("Do of an act with an empty Keep = %v, %d", events, err)
	}
}

// The journal keeps one unit for the end of each transaction in progress.
func TestJournalIsFull(t *testing.T) {
	p := smallPlant()
	p.Blocks = 8 // two units for records
	b := newBench(t, p)
	b.say("begin") // one of them
	b.refuse(api.ErrFull, "tick", "begin", "mount 0", "mount 7", "print 0 0", "look 1 0 1", "move 1 0 1 0 0", "look 9 0 1", "spoil 9 9", "repair 9 9", "inspect 9 0 0 0", "cut 9", "destroy 0 0 0 0", "audit 9 0 0")
	b.refuse(api.ErrTx, "commit 2", "abort 2")
	b.refuse(api.ErrBusy, "check")
	b.expect("save", "saved 1")
	b.expect("crash", "recovered 1, aborted 1")
	b.refuse(api.ErrFull, "tick", "begin")
	// Without a transaction in progress, commit and abort need one unit less than there is.
	b.refuse(api.ErrAborted, "commit 1", "abort 1")
	b.say("check")

	p.Blocks = 12 // four units
	b = newBench(t, p)
	b.say("begin", "begin")
	b.refuse(api.ErrFull, "begin", "tick")
	b.say("commit 1")
	b.refuse(api.ErrFull, "begin", "tick")
	b.say("abort 2")
	b.refuse(api.ErrFull, "begin", "tick")
	b.refuse(api.ErrCommitted, "commit 1", "abort 1")
	b.expect("save", "saved 4")
	b.expect("crash 1", "recovered 4")
}

// The last unit can be used if no transaction is in progress.
func TestLastUnit(t *testing.T) {
	p := smallPlant()
	p.Blocks = 8
	b := newBench(t, p)
	b.say("tick", "tick")
	b.refuse(api.ErrFull, "tick")
	b.say("save", "crash")
	if b.w.Room() != 0 || b.w.Now() != 2 {
		t.Errorf("Room = %d, Now = %d", b.w.Room(), b.w.Now())
	}
}

// A long line takes several units.
func TestLongLines(t *testing.T) {
	p := smallPlant()
	p.Dry, p.Blocks = 0, 16 // six units
	b := newBench(t, p)
	b.say("mount 0", "print 0 2", "repair 0 0")
	long := "inspect 0 0 9223372036854775807 -9223372036854775808" // two units
	longer := "move 1 -1000000000000000000 -1000000000000000000 -1000000000000000000 1"
	b.refuse(api.ErrTx, longer, longer+"0000000000", longer+"00000000000000000")
	b.expect(long, "inspected 0 1 0")
	b.refuse(api.ErrFull, long, longer)
	b.refuse(api.ErrTx, "look 9 1000000000000000 1000000000000000")
	b.refuse(api.ErrFull, "look 9 1000000000000000 10000000000000000")
	b.expect("save", "saved 4")
	b.expect("crash", "recovered 4")
	b.say("tick")
	b.refuse(api.ErrFull, "tick")
}

// The numbers that grow without end do so up to a limit, whose error comes last.
func TestLimits(t *testing.T) {
	const limit = 1 << 40
	p := smallPlant()
	p.Plates = 3
	begin := func(change func(*model)) *bench {
		m := newModel(p)
		m.lives[0] = 10
		change(m)
		return readBench(t, m)
	}
	b := begin(func(m *model) { m.now = limit - 1 })
	b.say("tick", "print 0 1")
	b.refuse(api.ErrFull, "tick")
	b.say("mount 0", "print 0 1")

	b = begin(func(m *model) {
		m.now, m.printed, m.batches = limit, 1, []batch{{0, 1, limit + 1}}
		m.paint(0, 1, api.TagWet)
		m.paint(2, 3, api.TagWet)
	})
	b.refuse(api.ErrFull, "tick")
	b.say("begin", "look 1 2 3")
	b.refuse(api.ErrBusy, "tick")
	b.say("abort 1")
	b.refuse(api.ErrFull, "tick")

	b = begin(func(m *model) { m.begun, m.before = limit-1, limit-1 })
	b.say("begin")
	b.refuse(api.ErrFull, "begin", "print 0 1")
	b.say("look 1099511627776 0 1")
	b.refuse(api.ErrBusy, "print 0 1")
	b.say("commit 1099511627776", "tick", "repair 0 0", "mount 0", "save", "crash")
	b.refuse(api.ErrFull, "begin", "print 0 1")

	for _, more := range []int{0, 1} {
		b = begin(func(m *model) {
			m.stars, m.printed = limit-2+more, 2
			m.paint(0, 2, api.TagPrinted)
			m.paint(2, 4, api.TagSpoiled)
			m.plant.Costs.Reprint = 9
		})
		if more == 0 {
			b.expect("repair 0 0", "replaced 2 1099511627774, replaced 3 1099511627775, opened 1, repaired 0 5")
		} else {
			b.refuse(api.ErrFull, "repair 0 0")
		}
	}
}

// All acts but save, check and crash are in the journal, unless they are refused.
func TestRecords(t *testing.T) {
	b := newBench(t, smallPlant())
	lines := []string{
		"mount 0", "print 0 4", "tick", "spoil 0 0", "repair 0 0", "repair 1 0", "inspect 0 1 1 0", "cut 0", "inspect 1 0 0 0", "cut 1",
		"begin", "look 6 1 8", "move 6 4 8 0 1", "move 6 4 8 0 1", "begin", "look 7 0 1", "move 7 1 2 0 1", "begin", "look 8 1 2",
		"move 6 0 1 0 1", "commit 6", "abort 8", "destroy 0 8 1 2", "audit 1 1 1",
	}
	for i, line := range lines {
		room := b.w.Room()
		b.say(line)
		b.refuse(api.ErrPlate, repeated("mount 0", min(i, 2))...)
		b.expect("save", fmt.Sprintf("saved %d", i+1))
		if b.w.Room() != room-1 {
			t.Errorf("%q: Room = %d after %d", line, b.w.Room(), room)
		}
	}
	b.expect("crash 1", fmt.Sprintf("recovered %d", len(lines)))
}
