package works_test

import (
	"fmt"
	"testing"

	"guilloche/api"
)

// vaultModel returns a model of a works all of whose notes are in vault 0, after 100 transactions.
func vaultModel(sheets int) *model {
	p := dryPlant()
	p.Layout, p.Sheets = api.Layout{Rows: 1, Cols: 2, Ream: 4096, Bundle: 1000}, sheets
	m := newModel(p)
	m.printed, m.stages[0] = sheets, api.ReamCut
	m.begun = 100
	m.paint(0, 2*sheets, api.TagVault)
	return m
}

func TestBegin(t *testing.T) {
	b := readBench(t, vaultModel(10))
	b.expect("begin", "begun 101")
	b.expect("begin", "begun 102")
	b.say(repeated("begin", 62)...)
	b.refuse(api.ErrFull, "begin")
	b.expect("commit 130", "committed 130 1")
	b.expect("begin", "begun 165")
}

func TestLook(t *testing.T) {
	b := readBench(t, vaultModel(10))
	b.say("begin", "begin")
	b.refuse(api.ErrTx, "look 103 0 1", "look 100 0 1", "look 0 -1 0", "look 1 0 1", "look -1 0 1", "look -9223372036854775808 0 1", "look 9223372036854775807 0 1")
	b.refuse(api.ErrRange, "look 101 -1 0", "look 101 5 4", "look 101 0 21", "look 102 -9223372036854775808 9223372036854775807")
	b.say("move 101 2 5 0 1")
	b.expect("look 101 0 20", "run 0 2 6, run 2 5 7, run 5 20 6, looked 101 0 20")
	b.expect("look 101 3 8", "run 3 5 7, run 5 8 6, looked 101 3 8")
	b.expect("look 101 20 20", "looked 101 20 20")
	b.expect("look 102 4 4", "looked 102 4 4")
	b.expect("look 102 5 6", "run 5 6 6, looked 102 5 6")
	b.expect("look 102 4 6", "waits 102")
	b.refuse(api.ErrWait, "look 102 5 6", "look 102 -1 0", "move 102 0 1 0 0", "commit 102")
	b.expect("commit 101", "committed 101 1, granted 102")
	b.refuse(api.ErrCommitted, "look 101 0 1", "look 101 -1 0", "commit 101", "abort 101", "move 101 -1 0 9 9")
	b.expect("look 102 4 6", "run 4 5 7, run 5 6 6, looked 102 4 6")
	b.expect("abort 102", "aborted 102")
	b.refuse(api.ErrAborted, "look 102 0 1", "look 102 -1 0", "commit 102", "abort 102", "move 102 -1 0 9 9")
}

func TestMove(t *testing.T) {
	m := vaultModel(10)
	m.paint(5, 6, api.TagSpoiled)
	b := readBench(t, m)
	b.say("begin")
	b.refuse(api.ErrTx, "move 102 -1 0 9 9", "move 100 0 1 0 0")
	b.refuse(api.ErrRange, "move 101 -1 0 0 0", "move 101 1 0 9 9", "move 101 0 21 0 0")
	b.refuse(api.ErrArg, "move 101 0 1 2 0", "move 101 0 1 0 2", "move 101 0 1 -2 0", "move 101 0 1 0 -2", "move 101 5 5 9223372036854775807 0", "move 101 5 5 0 -9223372036854775808")
	b.expect("move 101 0 5 0 -1", "moved 101 0 5")
	b.expect("move 101 0 2 -1 1", "moved 101 0 2")
	b.expect("move 101 0 2 1 1", "moved 101 0 2")
	b.expect("move 101 7 7 1 0", "moved 101 7 7") // nothing
	b.expect("move 101 4 6 0 1", "refused 101")
	b.expect("move 101 5 6 0 1", "refused 101") // It is spoiled.
	b.expect("move 101 0 20 0 0", "refused 101")
	b.expect("look 101 0 20", "run 0 2 7, run 2 5 4, run 5 6 3, run 6 20 6, looked 101 0 20")
	if tag, _ := b.w.Map().Get(0); tag != api.TagVault {
		t.Errorf("the note 0 has the tag %d before the commit", tag)
	}
	b.say("begin")
	b.expect("look 102 19 20", "waits 102") // A move that is refused keeps its lock.
	b.expect("abort 101", "aborted 101, granted 102")
	b.expect("move 102 0 5 0 -1", "moved 102 0 5")
	b.expect("commit 102", "committed 102 1")
	if tag, _ := b.w.Map().Get(0); tag != api.TagIssued {
		t.Errorf("the note 0 has the tag %d after the commit", tag)
	}
}

// The last of several vaults.
func TestVaults(t *testing.T) {
	m := vaultModel(3)
	m.plant.Vaults = 8
	b := readBench(t, m)
	b.say("begin")
	b.expect("move 101 0 6 0 7", "moved 101 0 6")
	b.expect("move 101 0 3 7 -1", "moved 101 0 3")
	b.refuse(api.ErrArg, "move 101 0 3 8 0", "move 101 0 3 0 8")
	b.expect("look 101 0 6", "run 0 3 4, run 3 6 13, looked 101 0 6")
	b.expect("commit 101", "committed 101 1")
	b.expect("save", "saved 5")
	b.expect("crash", "recovered 5")
}

func TestDeadlock(t *testing.T) {
	b := readBench(t, vaultModel(10))
	b.say("begin", "begin", "begin", "begin", "look 101 0 5", "look 102 3 8")
	b.expect("move 101 0 5 0 1", "waits 101")
	b.expect("look 103 0 1", "waits 103")
	b.expect("look 104 2 3", "waits 104")
	b.expect("move 102 3 8 0 1", "aborted 102, granted 101") // itself
	b.expect("move 101 0 5 0 1", "moved 101 0 5")
	b.expect("commit 101", "committed 101 1, granted 103, granted 104")
	b.expect("look 104 2 3", "run 2 3 7, looked 104 2 3")
}

// Others are aborted, and the request is granted or waits all the same.
func TestDeadlockOfOthers(t *testing.T) {
	b := readBench(t, vaultModel(10))
	b.say("begin", "begin", "begin", "begin", "begin")
	b.say("look 101 0 1", "look 102 1 2", "look 103 2 3", "look 104 3 4", "look 105 9 10")
	b.expect("move 102 0 1 0 1", "waits 102")
	b.expect("move 103 0 1 0 1", "waits 103")
	b.expect("look 105 0 1", "waits 105")
	b.expect("move 101 1 3 0 1", "moved 101 1 3, aborted 102, aborted 103, granted 105")
	b.expect("move 104 9 10 0 1", "waits 104")
	b.expect("look 105 2 4", "waits 105") // for 101 alone
	b.expect("abort 101", "aborted 101, granted 105")
	b.expect("move 105 3 4 0 1", "aborted 105, granted 104")
	b.expect("move 104 9 10 0 1", "moved 104 9 10")

	b = readBench(t, vaultModel(10))
	b.say("begin", "begin", "begin", "look 101 0 1", "look 102 5 6", "look 103 1 2", "look 103 5 6")
	b.expect("move 103 0 1 0 1", "waits 103")
	b.expect("move 101 1 6 0 1", "waits 101, aborted 103")
	b.expect("commit 102", "committed 102 1, granted 101")
}

// The number of committed transactions is that of clerks, in the book in use.
func TestCommit(t *testing.T) {
	b := newBench(t, dryPlant())
	b.say("begin", "mount 0", "print 0 2")
	b.expect("commit 1", "committed 1 1")
	b.refuse(api.ErrTx, "commit 2", "abort 2", "look 2 0 1", "look 2 -1 0", "move 2 0 1 0 0", "move 2 -1 0 9 9", "commit 3", "abort 3", "commit 0", "abort -5", "abort -9223372036854775808")
	if b.w.Tx(2) != api.TxCommitted {
		t.Errorf("Tx = %d", b.w.Tx(2))
	}
	b.say("begin", "begin", "begin", "spoil 0 0")
	b.expect("commit 4", "committed 4 2")
	b.expect("abort 3", "aborted 3")
	b.refuse(api.ErrBusy, "check")
	b.expect("commit 5", "committed 5 3")
	b.say("check")
	for tx := range 8 {
		if b.w.Tx(tx) != api.TxUnknown {
			t.Errorf("Tx(%d) = %d after a check", tx, b.w.Tx(tx))
		}
	}
	b.refuse(api.ErrTx, "commit 5", "abort 3", "look 4 0 1", "look 6 0 1", "look 2 0 1")
	b.say("spoil 1 0")
	b.expect("begin", "begun 8")
	b.refuse(api.ErrTx, "commit 7", "look 6 0 1", "look 1 0 1")
	b.expect("commit 8", "committed 8 1")
}

// If there are MaxLocks locks and requests, an act that needs one more is refused with an error; one that holds its notes is not.
func TestMaxLocks(t *testing.T) {
	b := readBench(t, vaultModel(2000))
	b.say("begin", "begin", "begin")
	b.sayQuickly(looks(101, 0, 1022)...)
	b.expect("move 102 0 1 0 0", "waits 102")
	b.say("look 103 3000 3001")
	b.refuse(api.ErrFull, "look 103 3001 3002", "move 103 3001 3002 0 0", "move 103 3000 3001 0 0", "look 101 2000 2001")
	b.refuse(api.ErrRange, "look 103 -1 0", "move 103 -1 0 0 0")
	b.refuse(api.ErrArg, "move 103 3001 3002 5 0")
	b.expect("look 103 3000 3001", "run 3000 3001 6, looked 103 3000 3001")
	b.expect("look 101 0 1022", "run 0 1022 6, looked 101 0 1022")
	b.expect("move 103 5 5 0 1", "moved 103 5 5")
	b.expect("abort 102", "aborted 102")
	b.expect("move 103 3000 3001 0 1", "moved 103 3000 3001")
}

// A move for which there is no room is refused without an error, also if there are MaxLocks locks and it needs none.
func TestMaxMoves(t *testing.T) {
	m := vaultModel(2000)
	for note := 1; note < 2048; note += 2 {
		m.paint(note, note+1, api.TagIssued)
	}
	b := readBench(t, m)
	b.say("begin", "begin")
	var lines []string
	for note := 3520; note >= 2500; note-- {
		if note == 3000 {
			lines = append(lines, "look 101 3600 3700")
		}
		lines = append(lines, fmt.Sprintf("move 101 %d %d 0 1", note, note+1))
	}
	b.sayQuickly(lines...) // 1021 moves, and a look
	b.expect("move 102 3900 3901 0 1", "moved 102 3900 3901")
	b.expect("move 101 3800 3801 1 0", "refused 101") // a lock without a move
	b.expect("move 101 3800 3801 0 1", "moved 101 3800 3801")
	b.expect("move 101 3800 3801 1 0", "refused 101") // The last move was possible.
	b.expect("move 101 2500 3521 1 1", "refused 101") // It is held by many locks.
	b.expect("move 102 3900 3901 1 0", "refused 102")
	b.refuse(api.ErrFull, "move 101 2500 3522 1 1", "move 101 2499 2501 1 1", "move 101 3600 3601 0 1", "move 101 3801 3802 0 1", "move 102 3800 3801 1 1")
	b.expect("move 101 10 10 0 1", "refused 101")
	b.refuse(api.ErrRange, "move 101 2 1 0 1")
	b.refuse(api.ErrArg, "move 101 2502 2503 0 5")
	b.say("abort 102")
	b.expect("move 101 3800 3801 1 0", "moved 101 3800 3801")
}
