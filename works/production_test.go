package works_test

import (
	"fmt"
	"strings"
	"testing"

	"guilloche/api"
)

// dryPlant has no drying time, and more of everything.
func dryPlant() api.Plant {
	p := smallPlant()
	p.Dry, p.Plates, p.Presses, p.Sheets, p.Life, p.Blocks = 0, 9, 2, 6, 8, 4096
	return p
}

func TestMount(t *testing.T) {
	p := dryPlant()
	p.Plates = 2
	b := newBench(t, p)
	b.expect("mount 1", "mounted 1 1")
	b.expect("print 1 5", "printed 1 0 5")
	b.expect("mount 1", "mounted 1 0") // What was left of the old plate is lost.
	if b.w.Press(1) != 8 || b.w.Press(0) != 0 || b.w.Plates() != 0 {
		t.Errorf("the lives are %d and %d, and %d plates are left", b.w.Press(0), b.w.Press(1), b.w.Plates())
	}
	b.refuse(api.ErrPlate, "mount 0", "mount 1")
	b.refuse(api.ErrRange, "mount 2", "mount -1")
}

func TestPrint(t *testing.T) {
	b := newBench(t, dryPlant())
	b.refuse(api.ErrRange, "print 2 1", "print -1 0", "print 9 100")
	b.refuse(api.ErrArg, "print 0 0", "print 0 -1", "print 0 -9223372036854775808")
	b.refuse(api.ErrFull, "print 0 7", "print 0 9223372036854775807")
	b.refuse(api.ErrPlate, "print 0 6", "print 0 1")
	b.say("begin", "look 1 0 12")
	b.refuse(api.ErrPlate, "print 0 1")
	b.say("mount 0")
	b.refuse(api.ErrBusy, "print 0 1")
	b.say("commit 1")
	b.expect("print 0 5", "printed 0 0 5")
	b.refuse(api.ErrFull, "print 0 2")
	b.expect("print 0 1", "printed 0 5 6")
	b.refuse(api.ErrFull, "print 0 1")
	if b.w.Press(0) != 2 || b.w.Printed() != 6 {
		t.Errorf("Press = %d, Printed = %d", b.w.Press(0), b.w.Printed())
	}
}

// Sheets whose notes are scattered over several reams, in both directions.
func TestPrintedNotes(t *testing.T) {
	p := dryPlant()
	p.Layout, p.Sheets, p.Dry = api.Layout{Rows: 2, Cols: 1, Ream: 3, Bundle: 2}, 8, 2
	for _, down := range []bool{false, true} {
		p.Layout.Down = down
		b := newBench(t, p)
		b.say("mount 0")
		b.expect("print 0 2", "printed 0 0 2")
		b.expect("print 0 3", "printed 0 2 5")
		want := map[bool]string{false: "run 0 8 1\nrun 8 9 0\nrun 9 11 1\nrun 11 16 0\n", true: "run 0 6 1\nrun 6 7 0\nrun 7 9 1\nrun 9 10 0\nrun 10 12 1\nrun 12 16 0\n"}[down]
		if !strings.HasSuffix(b.w.Book(), "begun 2\nwet 0 2 2\nwet 2 5 2\nreams 0 0 0\n"+want) {
			t.Errorf("Book = %q", b.w.Book())
		}
		b.say("tick")
		b.expect("print 0 1", "printed 0 5 6")
		b.expect("tick", "dried 0 2, dried 2 5")
		b.expect("tick", "dried 5 6")
		if b.w.Tx(4) != api.TxCommitted || b.w.Tx(5) != api.TxCommitted || b.w.Tx(6) != api.TxUnknown {
			t.Error("the notes of several batches are not changed in one transaction")
		}
	}
}

func TestTick(t *testing.T) {
	p := dryPlant()
	p.Dry = 3
	b := newBench(t, p)
	b.expect("tick", "")
	b.say("mount 0", "print 0 1", "print 0 2", "tick", "print 0 1", "tick", "begin", "look 4 1 2")
	b.say("begin", "look 5 11 12")
	b.refuse(api.ErrBusy, "tick")
	if b.w.Now() != 3 {
		t.Errorf("Now = %d", b.w.Now())
	}
	b.say("abort 4")
	b.expect("tick", "dried 0 1, dried 1 3")
	b.expect("tick", "dried 3 4")
	b.expect("tick", "")
}

func TestSpoil(t *testing.T) {
	b := newBench(t, dryPlant())
	b.say("mount 0", "print 0 5")
	b.refuse(api.ErrRange, "spoil -1 0", "spoil 6 0", "spoil 0 -1", "spoil 0 2", "spoil 9223372036854775807 9223372036854775807", "spoil -9223372036854775808 0")
	b.refuse(api.ErrState, "spoil 5 0")
	b.expect("spoil 3 1", "spoiled 7")
	b.refuse(api.ErrState, "spoil 3 1")
	b.say("begin", "look 3 6 7")
	b.expect("spoil 3 0", "spoiled 5")
	b.refuse(api.ErrBusy, "spoil 2 1")
	b.refuse(api.ErrState, "spoil 3 1")
	b.say("commit 3", "repair 1 0")
	b.refuse(api.ErrState, "spoil 2 0")
	b.say("inspect 1 0 0 0")
	b.refuse(api.ErrState, "spoil 2 0")
	b.say("cut 1")
	b.refuse(api.ErrState, "spoil 2 0")
	b.say("spoil 1 1")

	p := dryPlant()
	p.Dry = 1
	b = newBench(t, p)
	b.say("mount 0", "print 0 1")
	b.refuse(api.ErrState, "spoil 0 0") // It is wet.
}

// Locks, and requests that wait, make a production act wait, too; those of transactions that are over do not.
func TestBusy(t *testing.T) {
	b := newBench(t, dryPlant())
	b.say("mount 0", "print 0 6", "begin", "begin", "begin")
	b.expect("look 2 0 1", "run 0 1 2, looked 2 0 1")
	b.expect("move 3 0 3 0 0", "waits 3") // a request for writing
	b.refuse(api.ErrBusy, "spoil 0 0", "spoil 0 1", "spoil 1 0")
	b.expect("spoil 1 1", "spoiled 3")
	b.expect("commit 2", "committed 2 1, granted 3")
	b.refuse(api.ErrBusy, "spoil 0 0", "spoil 0 1", "spoil 1 0")
	b.expect("move 3 0 3 0 0", "refused 3") // It keeps the lock.
	b.refuse(api.ErrBusy, "spoil 0 0", "spoil 0 1", "spoil 1 0")
	b.expect("look 4 0 3", "waits 4") // a request for reading
	b.expect("abort 3", "aborted 3, granted 4")
	b.refuse(api.ErrBusy, "spoil 0 0", "spoil 0 1", "spoil 1 0")
	b.expect("abort 4", "aborted 4")
	b.expect("spoil 0 1", "spoiled 2")
}

func TestRepairErrors(t *testing.T) {
	p := dryPlant()
	p.Sheets, p.Presses, p.Plates = 5, 2, 1
	p.Costs = api.Costs{Reprint: 3, Star: 2, Open: 1}
	b := newBench(t, p)
	b.say("mount 0", "print 0 3")
	b.refuse(api.ErrRange, "repair 3 0", "repair -1 0", "repair 0 2", "repair 0 -1", "repair 1 2")
	b.refuse(api.ErrState, "repair 1 0", "repair 2 0")
	b.say("spoil 0 0", "spoil 0 1", "spoil 1 0")
	b.refuse(api.ErrPlate, "repair 0 1")
	b.say("begin", "look 5 0 1")
	b.refuse(api.ErrPlate, "repair 0 1")
	b.refuse(api.ErrBusy, "repair 0 0")
	b.say("abort 5", "begin", "look 6 1 2", "look 6 3 4") // The spoiled note 1 is replaced, and does not change.
	b.expect("repair 0 0", "reprinted 0, replaced 1 0, opened 0, repaired 0 6")
	b.refuse(api.ErrState, "repair 0 0")
	if b.w.Press(0) != 4 || b.w.Stars() != 1 || b.w.Ream(0) != api.ReamRepaired {
		t.Errorf("Press = %d, Stars = %d, Ream = %d", b.w.Press(0), b.w.Stars(), b.w.Ream(0))
	}
	b.say("print 0 1")
	b.expect("repair 1 1", "repaired 1 0") // No plate is needed if nothing is printed again.
}

// Wet notes and those that are not printed yet prevent a repair, even one of them.
func TestRepairOfWetReam(t *testing.T) {
	p := dryPlant()
	p.Dry, p.Layout.Ream, p.Sheets = 2, 3, 7
	b := newBench(t, p)
	b.say("mount 0", "print 0 2", "tick", "print 0 1", "tick")
	b.refuse(api.ErrState, "repair 0 0")
	b.say("tick", "spoil 0 1", "spoil 2 0")
	b.say("repair 0 0", "print 0 4", "tick", "tick")
	b.say("repair 2 0", "repair 1 0") // The last ream is not full.
}

// The plan is that of the whole print run, for this ream alone.
func TestRepairPlan(t *testing.T) {
	p := dryPlant()
	p.Layout = api.Layout{Rows: 2, Cols: 2, Ream: 3, Bundle: 2, Down: true}
	p.Sheets = 9
	p.Costs = api.Costs{Reprint: 7, Star: 2, Open: 1}
	b := newBench(t, p)
	b.say("mount 0", "print 0 8", "mount 0", "print 0 1", "spoil 0 0", "spoil 8 3")
	b.say("spoil 3 0", "spoil 3 1", "spoil 3 2", "spoil 4 3", "spoil 5 3")
	b.expect("repair 1 0", "reprinted 3, replaced 21 0, replaced 22 1, opened 14, repaired 1 12")
	b.expect("repair 2 0", "replaced 33 2, opened 22, repaired 2 3")
	b.expect("repair 0 0", "replaced 2 3, opened 1, repaired 0 3")
}

// Too many sheets and bundles with spoiled notes are those of sheet.Plan.
func TestRepairOfTooMuch(t *testing.T) {
	p := dryPlant()
	p.Layout = api.Layout{Rows: 1, Cols: 1, Ream: 100, Bundle: 1}
	p.Sheets, p.Life = 100, 100
	b := newBench(t, p)
	b.say("mount 0", "print 0 100")
	b.sayQuickly(numbered("spoil %d 0", 0, 61)...)
	b.say("mount 0", "begin", "look 63 0 1")
	b.refuse(api.ErrFull, "repair 0 0", "repair 0 1")

	m := newModel(p)
	m.plant.Layout, m.plant.Scheme.Length = api.Layout{Rows: 2, Cols: 2, Ream: 2000, Bundle: 1000}, 4
	m.plant.Sheets = 600
	m = newModel(m.plant)
	m.printed = 600
	m.paint(0, 2400, api.TagSpoiled)
	b = readBench(t, m)
	b.refuse(api.ErrFull, "repair 0 0")
}

func TestInspect(t *testing.T) {
	p := dryPlant()
	p.Layout, p.Sheets = api.Layout{Rows: 1, Cols: 2, Ream: 5, Bundle: 10}, 8
	b := newBench(t, p)
	b.say("mount 0", "print 0 8")
	b.refuse(api.ErrRange, "inspect 2 0 0 0", "inspect -1 0 0 0")
	b.refuse(api.ErrState, "inspect 0 0 0 0", "inspect 1 -1 -1 0")
	b.say("spoil 7 1", "spoil 6 1", "repair 1 0", "repair 0 0")
	b.refuse(api.ErrArg, "inspect 0 11 0 0", "inspect 0 -1 0 0", "inspect 0 0 -1 0", "inspect 1 7 0 0")
	b.expect("inspect 0 10 0 5", "inspected 0 1 10")
	b.expect("inspect 1 6 0 5", "inspected 1 2 5") // The notes 10 to 13 are good, 14 is bad.
	b.expect("inspect 1 6 1 -5", "inspected 1 2 6")
	b.expect("inspect 1 6 2 0", "inspected 1 1 4")
	if b.w.Ream(1) != api.ReamPassed {
		t.Errorf("Ream = %d", b.w.Ream(1))
	}
	b.expect("inspect 1 6 1 0", "inspected 1 2 6") // It does not pass any more.
	if b.w.Ream(1) != api.ReamRepaired {
		t.Errorf("Ream = %d", b.w.Ream(1))
	}
	b.expect("inspect 1 6 9223372036854775807 0", "inspected 1 1 0")
	b.expect("inspect 1 0 0 0", "inspected 1 1 0")
	for seed := -20; seed < 20; seed++ {
		b.say(fmt.Sprintf("inspect 1 3 0 %d", seed), fmt.Sprintf("inspect 1 2 1 %d", seed*1000000007))
	}
	b.say("inspect 1 0 0 9223372036854775807", "inspect 1 2 0 -9223372036854775808", "inspect 1 0 0 0", "cut 1")
	b.refuse(api.ErrState, "inspect 1 1 1 1")
}

// At most MaxDraw notes are inspected.
func TestInspectMany(t *testing.T) {
	m := newModel(dryPlant())
	m.plant.Layout, m.plant.Sheets = api.Layout{Rows: 4, Cols: 4, Ream: 300, Bundle: 100}, 270
	m = newModel(m.plant)
	m.printed, m.stages[0] = 270, api.ReamRepaired
	m.paint(0, 4320, api.TagPrinted)
	b := readBench(t, m)
	b.refuse(api.ErrArg, "inspect 0 4097 0 0")
	b.expect("inspect 0 4096 0 0", "inspected 0 1 4096")
}

func TestCut(t *testing.T) {
	b := newBench(t, dryPlant())
	b.say("mount 0", "print 0 6", "spoil 0 0", "spoil 2 0", "spoil 2 1", "spoil 3 0", "spoil 3 1")
	b.refuse(api.ErrRange, "cut 3", "cut -1", "cut 9223372036854775807")
	b.refuse(api.ErrState, "cut 0")
	b.say("repair 0 0", "inspect 0 0 0 0", "begin", "look 7 0 1")
	b.expect("cut 0", "cut 0 3 1") // The locked note 0 is spoiled.
	b.refuse(api.ErrState, "cut 0")
	b.say("repair 2 0", "inspect 2 0 0 0", "look 7 8 9")
	b.refuse(api.ErrBusy, "cut 2")
	b.say("commit 7")
	b.expect("cut 2", "cut 2 4 0")

	// A ream without any good note.
	p := dryPlant()
	p.Costs.Reprint = 100
	b = newBench(t, p)
	b.say("mount 0", "print 0 2", "spoil 0 0", "spoil 0 1", "spoil 1 0", "spoil 1 1", "repair 0 0", "inspect 0 4 4 0", "begin", "look 6 0 12")
	b.expect("cut 0", "cut 0 0 4")
	b.say("abort 6", "destroy 0 12 1 2")
}

func TestDestroy(t *testing.T) {
	p := dryPlant()
	p.Costs.Reprint = 100
	b := newBench(t, p)
	b.say("mount 0", "print 0 6", "spoil 0 0", "spoil 1 1", "spoil 2 0", "spoil 2 1", "spoil 3 0", "spoil 4 0") // the notes 0, 3, 4, 6, 5, 8
	b.refuse(api.ErrRange, "destroy 0 0 1 2", "destroy 1 0 1 2", "destroy -1 1 1 2", "destroy 0 13 1 2", "destroy 5 5 0 0", "destroy -9223372036854775808 9223372036854775807 1 1")
	b.refuse(api.ErrWitness, "destroy 0 12 1 1", "destroy 0 12 0 1", "destroy 0 12 1 0", "destroy 0 12 101 1", "destroy 0 12 1 101", "destroy 0 12 -5 7", "destroy 0 12 7 -5")
	b.refuse(api.ErrState, "destroy 0 12 1 2", "destroy 0 1 100 99")
	b.say("repair 0 0", "inspect 0 0 0 0")
	b.refuse(api.ErrState, "destroy 0 12 1 2")
	b.say("cut 0", "repair 1 0", "inspect 1 0 0 0", "cut 1")
	b.refuse(api.ErrState, "destroy 1 3 1 2", "destroy 7 12 1 2", "destroy 8 9 1 2")
	b.say("begin", "look 10 6 7")
	b.refuse(api.ErrBusy, "destroy 0 12 1 2", "destroy 6 7 1 2")
	b.expect("destroy 0 6 1 2", "destroyed 0 1, destroyed 3 6") // across two reams, in one move
	b.say("commit 10")
	b.expect("destroy 6 12 100 1", "destroyed 6 7") // The note 8 belongs to a ream that is not cut.
	b.refuse(api.ErrState, "destroy 0 12 1 2")
	if b.w.Tx(13) != api.TxUnknown || b.w.Tx(12) != api.TxCommitted {
		t.Error("the transactions are not those of the acts that changed notes")
	}
}

// A production act is refused if MaxTx transactions of clerks are in progress, unless it changes nothing.
func TestManyTransactions(t *testing.T) {
	b := newBench(t, dryPlant())
	b.say("mount 0", "print 0 2")
	b.say(repeated("begin", 64)...)
	b.refuse(api.ErrFull, "begin", "print 0 1", "spoil 0 0")
	b.say("tick", "repair 0 0", "inspect 0 1 0 0", "mount 1")
	b.refuse(api.ErrFull, "cut 0")
	b.say("look 2 0 1")
	b.refuse(api.ErrBusy, "cut 0")
	b.say("commit 65", "print 0 1")
	b.say("begin")
	b.refuse(api.ErrFull, "print 0 1")
	b.say("abort 9", "abort 2", "cut 0")
}

// looks returns lines by which a transaction locks that many notes from first on, one by one.
func looks(tx, first, count int) []string {
	var out []string
	for note := first; note < first+count; note++ {
		out = append(out, fmt.Sprintf("look %d %d %d", tx, note, note+1))
	}
	return out
}

// A production act needs a lock for each move.
func TestManyLocks(t *testing.T) {
	m := newModel(dryPlant())
	m.plant.Layout, m.plant.Sheets, m.plant.Life = api.Layout{Rows: 1, Cols: 2, Ream: 2000, Bundle: 100}, 2000, 2000
	m = newModel(m.plant)
	m.lives[0] = 2000
	b := readBench(t, m)
	b.say("print 0 100", "begin", "begin", "begin")
	b.sayQuickly(looks(2, 300, 1020)...)
	b.expect("move 3 300 301 -1 0", "waits 3")
	b.say("look 4 1600 1601")
	b.expect("print 0 1", "printed 0 100 101") // two moves, with 1022 locks and requests
	b.say("look 4 1601 1602")
	b.refuse(api.ErrFull, "print 0 1")
	b.expect("spoil 0 1", "spoiled 2000")
	b.say("look 4 1602 1603")
	b.refuse(api.ErrFull, "spoil 0 0", "look 4 1603 1604")
	b.refuse(api.ErrBusy, "print 0 300")
	b.say("tick", "abort 3")
	b.expect("spoil 0 0", "spoiled 0")
	b.expect("commit 2", "committed 2 1")
	b.expect("print 0 300", "printed 0 101 401")
}

// manyRuns returns a model of a works whose map has that many runs: printed sheets of one ream, on which every other note is spoiled.
func manyRuns(runs int) *model {
	p := dryPlant()
	p.Layout, p.Sheets, p.Life, p.Blocks = api.Layout{Rows: 1, Cols: 2, Ream: 4096, Bundle: 1000}, 4096, 5000, 4096
	m := newModel(p)
	m.lives[0], m.printed = 5000, runs-3
	m.paint(4096, 4096+m.printed, api.TagPrinted)
	tagged := make([]api.Run, 0, runs)
	for note := range m.printed {
		tagged = append(tagged, api.Run{Lo: note, Hi: note + 1, Tag: api.TagPrinted + note%2})
	}
	for _, run := range tagged {
		m.paint(run.Lo, run.Hi, run.Tag)
	}
	return m
}

// A production act is refused if the book has too little room for its moves.
func TestManyRuns(t *testing.T) {
	m := manyRuns(4089)
	b := readBench(t, m)
	b.say("tick", "print 0 2") // two moves, and the room is that of three
	b.say("spoil 0 1", "spoil 2 1")
	b.expect("spoil 4 1", "spoiled 4100")
	b.refuse(api.ErrFull, "spoil 6 1", "print 0 1")
	b.say("tick")
	b.say("begin", "look 5 0 8192")
	b.refuse(api.ErrBusy, "spoil 6 1", "print 0 1")

	b = readBench(t, manyRuns(4093)) // There is room for one move.
	b.refuse(api.ErrFull, "print 0 1")
	b.expect("spoil 1 1", "spoiled 4097")
	b.refuse(api.ErrFull, "print 0 1", "spoil 3 1")
}
