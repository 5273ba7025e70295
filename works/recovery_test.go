package works_test

import (
	"fmt"
	"strings"
	"testing"

	"guilloche/api"
	"guilloche/works"
)

func TestSave(t *testing.T) {
	b := newBench(t, smallPlant())
	b.expect("save", "saved 0")
	b.expect("crash", "recovered 0")
	b.say("mount 0", "tick")
	b.expect("save", "saved 2")
	b.expect("save", "saved 2")
	b.say("tick", "tick")
	b.expect("crash", "recovered 2")
	if b.w.Now() != 1 {
		t.Errorf("Now = %d", b.w.Now())
	}
	b.say("tick")
	b.expect("crash 9 9 9", "recovered 2")
	b.expect("save", "saved 2")
}

// A crash without any save brings the beginning back.
func TestCrashAtOnce(t *testing.T) {
	b := newBench(t, smallPlant())
	before, room := b.w.Book(), b.w.Room()
	b.say("mount 0", "print 0 2", "tick", "begin", "look 3 0 1", "audit 0 0 0")
	b.expect("crash 1 2 3", "recovered 0")
	if b.w.Book() != before || b.w.Room() != room || b.w.Tx(1) != api.TxUnknown {
		t.Errorf("Book = %q, Room = %d", b.w.Book(), b.w.Room())
	}
	text := vaultModel(5).text()
	b = readBench(t, vaultModel(5))
	b.say("begin", "move 101 0 9 0 1", "commit 101", "tick")
	b.expect("crash", "recovered 0")
	if b.w.Book() != text {
		t.Errorf("Book = %q, not %q", b.w.Book(), text)
	}
}

func TestCheckpoint(t *testing.T) {
	b := newBench(t, smallPlant())
	b.say("mount 0", "print 0 4", "begin", "tick", "audit 0 0 0")
	b.refuse(api.ErrBusy, "check")
	b.say("abort 2")
	text := b.w.Book()
	b.expect("check", fmt.Sprintf("checked %d", len(text)))
	if want := 199 - countUnits(text); b.w.Room() != want {
		t.Errorf("Room = %d, not %d", b.w.Room(), want)
	}
	b.expect("save", "saved 0")
	b.say("tick", "begin")
	b.expect("crash", "recovered 0")
	if b.w.Book() != text || b.w.Tx(2) != api.TxUnknown {
		t.Errorf("Book = %q, not %q", b.w.Book(), text)
	}
	b.expect("begin", "begun 4")
	b.say("spoil 0 0", "save", "spoil 1 0")
	b.expect("crash", "recovered 2, aborted 4")
	b.expect("begin", "begun 6")
	b.say("save")
	b.expect("crash", "recovered 4, aborted 6")
}

// A check is refused if its book is too long for the disk.
func TestLongCheckpoint(t *testing.T) {
	p := smallPlant()
	p.Blocks = 12 // five units, for 200 bytes
	b := newBench(t, p)
	for b.w.Room() > 0 {
		b.say("audit 0 0 0")
	}
	b.refuse(api.ErrFull, "audit 0 0 0", "check")
	b.say("save")
	b.expect("crash", "recovered 4")
	p.Blocks = 22
	b = newBench(t, p)
	b.say("audit 0 0 0", "audit 0 0 0", "audit 0 0 0")
	for strings.Contains(b.say("check"), "checked") {
		b.say("audit 0 0 0")
	}
	b.say("save", "crash")
}

// The transactions in progress are aborted after a crash, which is in the journal.
func TestAbortsAfterCrash(t *testing.T) {
	b := readBench(t, vaultModel(10))
	b.say("begin", "begin", "begin", "begin", "look 101 0 5", "look 104 8 9")
	b.expect("move 102 0 5 0 1", "waits 102")
	b.expect("look 103 4 9", "waits 103")
	b.say("move 104 10 12 0 1", "save", "move 104 14 16 0 1", "commit 104")
	room := b.w.Room() + 2
	b.expect("crash", "recovered 9, aborted 101, granted 102, aborted 102, granted 103, aborted 103, aborted 104")
	if b.w.Room() != room-4 || b.w.Tx(101) != api.TxAborted || b.w.Tx(104) != api.TxAborted {
		t.Errorf("Room = %d after %d", b.w.Room(), room)
	}
	b.expect("save", "saved 13")
	b.refuse(api.ErrAborted, "commit 102")
	b.expect("begin", "begun 105")
	b.expect("move 105 0 20 0 1", "moved 105 0 20")
	b.expect("commit 105", "committed 105 1")
	b.say("save")
	b.expect("crash", "recovered 16")
	b.expect("begin", "begun 106")
	b.expect("look 106 0 20", "run 0 20 7, looked 106 0 20")
	b.say("begin", "begin", "save")
	b.expect("crash 0 0 1", "recovered 20, aborted 106, aborted 107, aborted 108")
	b.expect("crash 1", "recovered 20, aborted 106, aborted 107, aborted 108")
	b.say("check")
	b.expect("crash 1", "recovered 0")
}

// After a crash a works is as another one on which only what was saved was performed.
func TestDurability(t *testing.T) {
	for seed := range uint64(60) {
		p := player{newSource(100 + seed)}
		m := p.model(p.plant())
		text := m.text()
		b := readBench(t, m)
		var kept, lines []string
		for range 100 {
			line := p.line(b.m)
			if !strings.HasPrefix(b.say(line), "error") {
				lines = append(lines, line)
			}
			if p.IntN(10) == 0 {
				b.say("save")
				kept = append(kept, lines...)
				lines = nil
			}
		}
		said := b.say("crash 2 0 1")
		other, err := works.Read(b.m.plant, text)
		checkError(t, "Read", err, api.OK)
		for _, line := range kept {
			other.Say(line)
		}
		for _, event := range strings.Split(said, "\n") {
			if tx, isAbort := strings.CutPrefix(event, "aborted "); isAbort {
				other.Say("abort " + tx)
			}
		}
		if other.Book() != b.w.Book() || other.Room() != b.w.Room() {
			t.Fatalf("Book = %q, not %q", b.w.Book(), other.Book())
		}
	}
}
